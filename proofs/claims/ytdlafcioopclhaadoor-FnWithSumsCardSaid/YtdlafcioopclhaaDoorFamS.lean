import Derived.Test.YtdlafcioopclhaaDoorFamF
import Derived.Deep.QuietTactic
namespace Go.Proofs.YtdlafcioopclhaaDoor
open Go.RowKit Go.Maps

/-! ### the models -/

theorem famOk_len_eq {n : Nat} {f : Nat → Int} (h : ∀ k, k < n → (1 ≤ f k ∧ f k ≤ 15) ∧ ∀ j, j < k → f j ≠ f k) : inB 1 (n : Int) 7 = famOkB n f := by
  by_cases hn : 1 ≤ n ∧ n ≤ 7
  · rw [inB_true (by omega) (by omega), famOk_of hn.1 hn.2 h]
  · rw [inB_false (by omega), famOk_len hn]

set_option maxRecDepth 100000 in
set_option maxHeartbeats 3200000 in
theorem specFamilyOk_in (g o n cap : Nat) (f : Nat → Int) (h1 : 1 ≤ n) (hm : n ≤ 9223372036854775807) (w : World) (hr : Row w g o n f) :
    Calls Tryd.prog 15 #[.slice (some ⟨g, o, none⟩) n cap] w fun e w' => e = .returned (.bool (famOkB n f)) ∧ Drew w w' := by
  have HR := Lib.hid hr; clear hr
  go_enter Tryd.func15, Tryd.ntmps15
  go_wp2_with fail
  go_loopw [3] (fun i wr => ∃ k : Nat, k ≤ n ∧ i = .int .i64 k ∧ Drew w wr ∧ Hid (∀ j, j < k → (1 ≤ f j ∧ f j ≤ 15) ∧ ∀ i, i < j → f i ≠ f j)) (fun i _ => n - (intOf i).toNat)
  case atStart => exact ⟨0, Nat.zero_le _, rfl, Drew.refl _, fun j hj => absurd hj (Nat.not_lt_zero _)⟩
  case round =>
    obtain ⟨k, hk, rfl, hd, hall⟩ := hrel
    have hrw := row_drew HR.out hd
    by_cases hlt : k < n
    · have hki : (k : Int) < (n : Int) := by omega
      have hck := hrw k hlt
      have HRW := Lib.hid hrw; clear hrw
      by_cases hx : 1 ≤ f k ∧ f k ≤ 15
      · have HIN := Lib.hid (inB_true hx.1 hx.2)
        have HX := Lib.hid hx
        clear hx
        go_wp2_with fail
        refine (l1In_val _ _ _ true _ HIN.out).mono ?_
        rintro e w' ⟨rfl, rfl⟩
        go_wp2_with fail
        obtain ⟨wo, rfl⟩ : ∃ wo : World, wo = wr := ⟨_, rfl⟩
        go_loopw [4] (fun i wr => ∃ j : Nat, j ≤ k ∧ i = .int .i64 j ∧ Drew wo wr ∧ Hid (∀ i, i < j → f i ≠ f k)) (fun i _ => k - (intOf i).toNat)
        case atStart => exact ⟨0, Nat.zero_le _, rfl, Drew.refl _, fun j hj => absurd hj (Nat.not_lt_zero _)⟩
        case round =>
          obtain ⟨j, hj, rfl, hd2, hall2⟩ := hrel
          have hrw2 := row_drew HRW.out hd2
          by_cases hjk : j < k
          · have hji : (j : Int) < (k : Int) := by omega
            have hjn : (j : Int) < (n : Int) := by omega
            have hcj := hrw2 j (by omega)
            have hckk := hrw2 k hlt
            clear hrw2 hck
            cases heq : (f j == f k) with
            | true =>
              have HF := Lib.hid (famOk_no (f := f) hlt (fun e => e.2 j hjk (beq_iff_eq.1 heq)))
              have HD2 := Lib.hid hd2; clear hd2
              go_wp2_with fail
              go_quiet (fail)
              go_wp2_with fail
              go_ret
              exact ⟨retb HF.out.symm, (hd.onto HD2.out).more _⟩
            | false =>
              have HNE := Lib.hid (show f j ≠ f k by rwa [beq_eq_false_iff_ne] at heq)
              have HD2 := Lib.hid hd2; clear hd2
              go_wp2_with fail
              go_quiet (fail)
              go_wp2_with fail
              go_roundw
              case rel => exact ⟨j + 1, by omega, by go_num, HD2.out.more _, fun i hi => by
                by_cases e : i = j
                · subst e; exact HNE.out
                · exact hall2 i (by omega)⟩
              case measure => simp [intOf]; omega
          · have hji : ¬ (j : Int) < (k : Int) := by omega
            have hjk2 : j = k := by omega
            subst hjk2
            have HD2 := Lib.hid (hd.onto hd2); clear hd2 hrw2 hck
            go_wp2_with fail
            go_roundw
            case rel => exact ⟨j + 1, by omega, by go_num, HD2.out, fun i hi => by
              by_cases e : i = j
              · subst e; exact ⟨HX.out, hall2⟩
              · exact hall i (by omega)⟩
            case measure => simp [intOf]; omega
      · have HIN := Lib.hid (inB_false hx)
        have HF := Lib.hid (famOk_no (f := f) hlt (fun e => hx e.1))
        clear hx
        go_wp2_with fail
        refine (l1In_val _ _ _ false _ HIN.out).mono ?_
        rintro e w' ⟨rfl, rfl⟩
        go_wp2_with fail
        go_ret
        exact ⟨retb HF.out.symm, hd⟩
    · have hki : ¬ (k : Int) < (n : Int) := by omega
      have hkn : k = n := by omega
      subst hkn
      have HV := Lib.hid (famOk_len_eq hall)
      clear hrw
      go_wp2_with fail
      refine (l1In_val _ _ _ _ _ HV.out).mono ?_
      rintro e w' ⟨rfl, rfl⟩
      go_wp2_with fail
      go_ret
      exact ⟨rfl, hd⟩

set_option maxRecDepth 100000 in
set_option maxHeartbeats 800000 in
theorem specFamilyOk_nil (a : Option Addr) (cap : Nat) (f : Nat → Int) (w : World) :
    Calls Tryd.prog 15 #[.slice a 0 cap] w fun e w' => e = .returned (.bool (famOkB 0 f)) ∧ Drew w w' := by
  have HV := Lib.hid (famOk_len_eq (n := 0) (f := f) (fun k hk => absurd hk (Nat.not_lt_zero _)))
  go_enter Tryd.func15, Tryd.ntmps15
  go_wp2_with fail
  go_loopw [3] (fun i wr => i = .int .i64 0 ∧ w = wr) (fun _ _ => 0)
  case atStart => exact ⟨rfl, rfl⟩
  case round =>
    obtain ⟨rfl, rfl⟩ := hrel
    go_wp2_with fail
    refine (l1In_val _ _ _ _ _ HV.out).mono ?_
    rintro e w' ⟨rfl, rfl⟩
    go_wp2_with fail
    go_ret
    exact ⟨rfl, Drew.refl _⟩

theorem specFamilyOk_any (a : Option Addr) (n cap : Nat) (f : Nat → Int) (w : World) (hi : Ints w a n f) :
    Calls Tryd.prog 15 #[.slice a n cap] w fun e w' => e = .returned (.bool (famOkB n f)) ∧ Drew w w' := by
  by_cases h : n = 0
  · subst h; exact specFamilyOk_nil a cap f w
  · obtain ⟨b, o, rfl, hbl, hrow⟩ := hi.row (by omega)
    exact specFamilyOk_in b o n cap f (by omega) hi.1.1 w hrow
theorem specFamilyOk_val (a : Option Addr) (n cap : Nat) (f : Nat → Int) (v : Bool) (w : World) (hv : famOkB n f = v) (hi : Ints w a n f) :
    Calls Tryd.prog 15 #[.slice a n cap] w fun e w' => e = .returned (.bool v) ∧ Drew w w' := by subst hv; exact specFamilyOk_any a n cap f w hi

set_option maxRecDepth 100000 in
set_option maxHeartbeats 6400000 in
theorem specWorldFrom_in (b o n cap : Nat) (f : Nat → Int) (hf : famOkB n f = true) (w : World) (hi : Ints w (some ⟨b, o, none⟩) n f) (hr : Row w b o n f) (hbl : b < w.heap.size) :
    Calls Tryd.prog 9 #[.slice (some ⟨b, o, none⟩) n cap] w (Gives 3 (rowL (wfF n f) n) w) := by
  obtain ⟨i0, hii, hz0, hz1, hz2⟩ := info_parts Tryd.infoInt
  have hP := famOk_iff.1 hf
  have h7 := hP.hi
  have h1n := hP.lo
  have HI64 := Lib.hid hi.i64
  have HI := Lib.hid hi; have HF := Lib.hid hf; have HR := Lib.hid hr
  have hst : OwnX (w.alloc (.cells #[] 3)) w.heap.size 3 (.slice (some ⟨w.heap.size, 0, none⟩) 0 0) (rowL (wfF n f) 0) := OwnX.made w _ (Nat.le_refl _) _
  have hsb := alloc_below w (.cells #[] 3)
  clear hi hf hr hP
  go_enter Tryd.func9, Tryd.ntmps9
  go_wp2_with fail
  go_loopw [3, 4] (fun v i wr => ∃ k : Nat, k ≤ n ∧ i = .int .i64 k ∧ OwnX wr w.heap.size 3 v (rowL (wfF n f) k) ∧ Below w.heap.size w wr) (fun _ i _ => n - (intOf i).toNat)
  case atStart => exact ⟨0, Nat.zero_le _, rfl, hst, hsb⟩
  case round =>
    clear hst hsb
    obtain ⟨k, hk, rfl, hown, hbel⟩ := hrel
    obtain ⟨a9, c9, rfl⟩ := hown.slice
    have HOW := Lib.hid hown; have HB := Lib.hid hbel; clear hown hbel
    by_cases hlt : k < n
    · have hki : (k : Int) < (n : Int) := by omega
      go_wp2_with fail
      refine (specFamilyOk_val _ n cap f true _ HF.out (HI.out.below HB.out (Nat.le_refl _))).mono ?_
      rintro e w1 ⟨rfl, hd1⟩
      have HB1 := Lib.hid (HB.out.trans (hd1.below.mono HB.out.size)); have HOW1 := Lib.hid (HOW.out.kept hd1.below)
      clear hd1
      go_wp2_with fail
      go_loopw [5, 6] (fun v i wr => ∃ j : Nat, j ≤ n ∧ i = .int .i64 j ∧ v = .int .i64 (setOf (fun b => withinB (f b) (f k)) j) ∧ Drew w1 wr) (fun _ i _ => n - (intOf i).toNat)
      case atStart => exact ⟨0, Nat.zero_le _, rfl, rfl, Drew.refl _⟩
      case round =>
        obtain ⟨j, hj, rfl, rfl, hd⟩ := hrel
        have hbw : Below w.heap.size w wr := HB1.out.trans (hd.below.mono HB1.out.size)
        have hrw := HR.out.below hbw hbl
        by_cases hjn : j < n
        · have hji : (j : Int) < (n : Int) := by omega
          have hck := hrw k hlt
          have hcj := hrw j hjn
          have ⟨hq1, hq2⟩ := pow_bounds j (by omega)
          have hew := or_eq_within (f k) (f j) (HI64.out k hlt)
          have HBW := Lib.hid hbw
          clear hbw hrw
          cases hg : withinB (f j) (f k) with
          | true =>
            have HS := Lib.hid (setOf_yes (fun b => withinB (f b) (f k)) j hg)
            rw [hg] at hew; clear hg
            go_wp2_with fail
            go_quiet (fail)
            go_wp2_with fail
            go_roundw
            case rel => exact ⟨j + 1, by omega, by go_num, by rw [HS.out], hd.more _⟩
            case measure => simp [intOf]; omega
          | false =>
            have HS := Lib.hid (setOf_no (fun b => withinB (f b) (f k)) j hg)
            rw [hg] at hew; clear hg
            go_wp2_with fail
            go_quiet (fail)
            go_wp2_with fail
            go_roundw
            case rel => exact ⟨j + 1, by omega, by go_num, by rw [HS.out], hd.more _⟩
            case measure => simp [intOf]; omega
        · have hje : j = n := by omega
          subst hje
          have hji : ¬ ((j : Int) < (j : Int)) := by omega
          have HS := Lib.hid (rowL_succ (wfF j f) k)
          have HL := Lib.hid (show (rowL (wfF j f) k).length ≤ 1000 by rw [rowL_len]; omega)
          have HSZ := Lib.hid hbw.size; have HBW := Lib.hid hbw
          have HO : Hid (wr.ownsRow w.heap.size 3 1 (.slice a9 (rowL (wfF j f) k).length c9) (rowL (wfF j f) k).length ((rowL (wfF j f) k).map (Value.int .i64))) := Lib.hid (HOW1.out.kept hd.below)
          clear hbw hrw hd
          have k1 := Lib.hid (fun (i : Nat) (u : Value) (h : [Value.int .i64 (setOf (fun b => withinB (f b) (f k)) j)][i]? = some u) => cell_one_new wr (.int .i64 (setOf (fun b => withinB (f b) (f k)) j)) 3 i u h)
          have k2 : Hid (∀ u ∈ [Value.int .i64 (setOf (fun b => withinB (f b) (f k)) j)], u.oneCell' = true) := Lib.hid (by intro u hu; simp at hu; subst hu; rfl)
          have k3 : Hid ((rowL (wfF j f) k).length + 1 ≤ maxLen) := Lib.hid (by have := HL.out; unfold maxLen; omega)
          have k4 : Hid (((rowL (wfF j f) k).length + 1) * 8 ≤ 140737488355328) := Lib.hid (by have := HL.out; omega)
          have k5 : Hid (w.heap.size ≤ (wr.alloc (.cells #[.int .i64 (setOf (fun b => withinB (f b) (f k)) j)] 3)).heap.size) := Lib.hid (by rw [alloc_size]; have := HSZ.out; omega)
          go_wp2_with (at_builtin; refine wpList_append_own _ rfl (.tmp 42) (.tmp 44) 23 rfl w.heap.size 3 i0 (.int .i64 0) 1 8 Tryd.underlying23 hii hz0 hz1 hz2 rfl (by decide) _ _ _ rfl (HO.out.alloc _) ⟨wr.heap.size, 0, none⟩ 1 1 [.int .i64 (setOf (fun b => withinB (f b) (f k)) j)] rfl rfl k1.out k2.out k3.out k4.out k5.out ?_)
          intro v' w5 hown' hgrow _
          have hg5 : Below w.heap.size wr w5 := ((Below.refl w.heap.size wr).alloc HSZ.out _).grown hgrow (by have := HSZ.out; rw [alloc_size]; omega) (fun q hq => (HO.out.lt q hq).1)
          have ho5 := OwnX.snoc hown'
          clear hown' hgrow k1 k2 k3 k4 k5
          have HO5 := Lib.hid ho5; have HG5 := Lib.hid hg5; clear ho5 hg5
          go_wp2_with fail
          go_roundw
          case rel => exact ⟨k + 1, by omega, by go_num, by rw [HS.out]; exact HO5.out, HBW.out.trans HG5.out⟩
          case measure => simp [intOf]; omega
    · have hki : ¬ (k : Int) < (n : Int) := by omega
      have hkn : k = n := by omega
      subst hkn
      go_wp2_with fail
      go_ret
      exact ⟨_, rfl, HOW.out, HB.out⟩

set_option maxRecDepth 100000 in
set_option maxHeartbeats 1600000 in
theorem specWorldFrom_no (a : Option Addr) (n cap : Nat) (f : Nat → Int) (hf : famOkB n f = false) (w : World) (hi : Ints w a n f) :
    Calls Tryd.prog 9 #[.slice a n cap] w (Gives 3 [] w) := by
  have HI := Lib.hid hi; have HF := Lib.hid hf
  have hnm := hi.1.1
  have hst : OwnX (w.alloc (.cells #[] 3)) w.heap.size 3 (.slice (some ⟨w.heap.size, 0, none⟩) 0 0) [] := OwnX.made w _ (Nat.le_refl _) _
  have HST := Lib.hid hst
  have HSB := Lib.hid (alloc_below w (.cells #[] 3))
  clear hi hf hst
  go_enter Tryd.func9, Tryd.ntmps9
  go_wp2_with fail
  go_loopw [3, 4] (fun v i wr => i = .int .i64 0 ∧ v = .slice (some ⟨w.heap.size, 0, none⟩) 0 0 ∧ wr = w.alloc (.cells #[] 3)) (fun _ _ _ => 0)
  case atStart => exact ⟨rfl, rfl, rfl⟩
  case round =>
    obtain ⟨rfl, rfl, rfl⟩ := hrel
    by_cases h0 : n = 0
    · subst h0
      go_wp2_with fail
      go_ret
      exact ⟨_, rfl, HST.out, HSB.out⟩
    · have h0i : (0 : Int) < (n : Int) := by omega
      go_wp2_with fail
      refine (specFamilyOk_val _ n cap f false _ HF.out (HI.out.below HSB.out (Nat.le_refl _))).mono ?_
      rintro e w1 ⟨rfl, hd1⟩
      have HD := Lib.hid hd1; clear hd1
      go_wp2_with fail
      go_ret
      exact ⟨_, rfl, HST.out.kept HD.out.below, below_onto HSB.out HD.out.below⟩

theorem specWorldFrom_any (a : Option Addr) (n cap : Nat) (f : Nat → Int) (w : World) (hi : Ints w a n f) :
    Calls Tryd.prog 9 #[.slice a n cap] w (Gives 3 (wfL n f) w) := by
  cases hf : famOkB n f with
  | true =>
    rw [show wfL n f = rowL (wfF n f) n by unfold wfL; rw [if_pos hf]]
    obtain ⟨b, o, rfl, hbl, hrow⟩ := hi.row (famOk_iff.1 hf).lo
    exact specWorldFrom_in b o n cap f hf w hi hrow hbl
  | false =>
    rw [show wfL n f = [] by unfold wfL; rw [if_neg (by rw [hf]; decide)]]
    exact specWorldFrom_no a n cap f hf w hi

/-! ### a set put behind -/

set_option maxRecDepth 100000 in
set_option maxHeartbeats 1600000 in
theorem l7Put_old (B : Nat) (a : Option Addr) (n cap : Nat) (xs : List Int) (t : Int) (hn : xs.length = n) (hl : n ≤ 1000) (w : World) (h : OwnX w B 3 (.slice a n cap) xs) (ht : t ∈ xs) :
    Calls Tryd.prog 16 #[.slice a n cap, .int .i64 t] w fun e w' => e = .returned (.slice a n cap) ∧ Drew w w' := by
  have hn1 : 1 ≤ xs.length := List.length_pos_of_mem ht
  obtain ⟨g, c, e1, _, _, _, _, hrow, _⟩ := h.shape hn1
  rw [hn] at e1 hrow hn1
  injection e1 with e2 _ e3
  subst e2; subst e3
  have HR := Lib.hid hrow
  have HT : Hid (∃ j, j < n ∧ xs.getD j 0 = t) := Lib.hid (by
    obtain ⟨j, hj, e⟩ := List.getElem_of_mem ht
    exact ⟨j, by omega, by rw [List.getD_eq_getElem?_getD, List.getElem?_eq_getElem hj]; exact e⟩)
  clear h hrow ht hn
  go_enter Tryd.func16, Tryd.ntmps16
  go_wp2_with fail
  go_loopw [5] (fun i wr => ∃ k : Nat, k ≤ n ∧ i = .int .i64 k ∧ w = wr ∧ Hid (∀ j, j < k → xs.getD j 0 ≠ t)) (fun i _ => n - (intOf i).toNat)
  case atStart => exact ⟨0, Nat.zero_le _, rfl, rfl, fun j hj => absurd hj (Nat.not_lt_zero _)⟩
  case round =>
    obtain ⟨k, hk, rfl, rfl, hall⟩ := hrel
    by_cases hlt : k < n
    · have hki : (k : Int) < (n : Int) := by omega
      have hc : w.cell? ⟨g, k, none⟩ = some (.int .i64 (xs.getD k 0)) := by have := HR.out k hlt; rwa [Nat.zero_add] at this
      obtain ⟨y, hy⟩ : ∃ y, xs.getD k 0 = y := ⟨_, rfl⟩
      rw [hy] at hc
      cases heq : (y == t) with
      | true =>
        clear hy
        go_wp2_with fail
        go_ret
        exact ⟨rfl, Drew.refl _⟩
      | false =>
        have HNE := Lib.hid (show xs.getD k 0 ≠ t by rw [hy]; rwa [beq_eq_false_iff_ne] at heq)
        clear hy
        go_wp2_with fail
        go_roundw
        case rel => exact ⟨k + 1, by omega, by go_num, by first | rfl | trivial, fun i hi => by
          by_cases e : i = k
          · subst e; exact HNE.out
          · exact hall i (by omega)⟩
        case measure => simp [intOf]; omega
    · obtain ⟨j, hj, e⟩ := HT.out
      exact absurd e (hall j (by omega))

def Putted (B : Nat) (ys : List Int) (w : World) (e : Ending) (w' : World) : Prop := ∃ v, e = .returned v ∧ OwnX w' B 3 v ys ∧ Below B w w'

set_option maxRecDepth 100000 in
set_option maxHeartbeats 3200000 in
theorem l7Put_new (B : Nat) (a : Option Addr) (n cap : Nat) (xs : List Int) (t : Int) (hn : xs.length = n) (hl : n ≤ 1000) (w : World) (hB : B ≤ w.heap.size) (h : OwnX w B 3 (.slice a n cap) xs) (ht : t ∉ xs) :
    Calls Tryd.prog 16 #[.slice a n cap, .int .i64 t] w (Putted B (xs ++ [t]) w) := by
  obtain ⟨i0, hii, hz0, hz1, hz2⟩ := info_parts Tryd.infoInt
  have HSH := Lib.hid (fun (h1 : 1 ≤ n) => h.shape (by omega))
  have HT := Lib.hid (fun j (hj : j < n) => (fun e => ht (by rw [← e]; exact getD_in (by omega)) : xs.getD j 0 ≠ t))
  have HH := Lib.hid h; have HN := Lib.hid hn
  clear h ht hn
  go_enter Tryd.func16, Tryd.ntmps16
  go_wp2_with fail
  go_loopw [5] (fun i wr => ∃ k : Nat, k ≤ n ∧ i = .int .i64 k ∧ w = wr) (fun i _ => n - (intOf i).toNat)
  case atStart => exact ⟨0, Nat.zero_le _, rfl, rfl⟩
  case round =>
    obtain ⟨k, hk, rfl, rfl⟩ := hrel
    by_cases hlt : k < n
    · have hki : (k : Int) < (n : Int) := by omega
      obtain ⟨g, c, e1, _, _, _, _, hrow, _⟩ := HSH.out (by omega)
      rw [HN.out] at hrow e1
      injection e1 with e2 _ e3
      subst e2; subst e3
      have hc : w.cell? ⟨g, k, none⟩ = some (.int .i64 (xs.getD k 0)) := by have := hrow k hlt; rwa [Nat.zero_add] at this
      obtain ⟨y, hy⟩ : ∃ y, xs.getD k 0 = y := ⟨_, rfl⟩
      rw [hy] at hc
      have heq : (y == t) = false := by rw [beq_eq_false_iff_ne, ← hy]; exact HT.out k hlt
      clear hy hrow
      go_wp2_with fail
      go_roundw
      case rel => exact ⟨k + 1, by omega, by go_num, by first | rfl | trivial⟩
      case measure => simp [intOf]; omega
    · have hki : ¬ (k : Int) < (n : Int) := by omega
      have hkn : k = n := by omega
      subst hkn
      have hal := alloc_below w (.cells #[.int .i64 t] 3)
      have hown := HH.out.kept hal
      unfold OwnX at hown
      rw [HN.out] at hown
      obtain ⟨v', w1, hr, hown', hgr, _, _⟩ := run_append_own_at (P := Tryd.prog) (w.alloc (.cells #[.int .i64 t] 3)) B 23 23 3 i0 (.int .i64 0) 1 8 Tryd.underlying23 hii hz0 hz1 hz2 rfl (by decide) _ _ _
        hown ⟨w.heap.size, 0, none⟩ 1 1 [.int .i64 t] rfl (cell_one_new w (.int .i64 t) 3) (fun u hu => by simp at hu; subst hu; rfl) (by unfold maxLen; omega) (by omega) (Nat.le_trans hB hal.size)
      have HR := Lib.hid hr
      have HB := Lib.hid (show Below B w w1 from ((Below.refl B w).trans (hal.mono hB)).trans ((Upon.of_grown hgr).below (fun g hg => (World.ownsRow.lt hown g hg).1) (Nat.le_trans hB hal.size)))
      have HO := Lib.hid (OwnX.snoc (xs := xs) (by rw [HN.out]; exact hown'))
      clear hr hown hown' hgr hal
      go_wp2_with (at_builtin; refine Lib.wpList_append_run _ rfl _ _ _ _ rfl _ _ rfl rfl _ _ HR.out ?_)
      go_ret
      exact ⟨_, rfl, HO.out, HB.out⟩
end Go.Proofs.YtdlafcioopclhaaDoor
