import Derived.Test.YtibjdmmcnhlgnaaPlS
namespace Go.Proofs.Ytibjdmmcnhlgnaa
set_option linter.unusedVariables false
set_option linter.unusedSimpArgs false
open Go.RowKit Go.Maps

set_option maxRecDepth 100000 in
set_option maxHeartbeats 3200000 in
theorem specChangedOf_no (a : Option Addr) (n cap : Nat) (f : Nat → Int) (p q : Int) (hs : shipB n f = false) (w : World) (hi : Ints w a n f) :
    Calls Try.prog 29 #[.slice a n cap, .agg #[.int .i64 p, .int .i64 q]] w (GivesC (chL n f p q) (chB n f p q) w) := by
  have hab := alloc_below w (.cells #[.int .i64 p, .int .i64 q] 36)
  have HI := Lib.hid (hi.below hab (Nat.le_refl _)); clear hi
  have HS := Lib.hid hs; have HC := Lib.hid (chL_no (p := p) (q := q) hs); clear hs
  have HB := Lib.hid hab
  rw [HC.out.1, HC.out.2]
  go_enter Try.func29, Try.ntmps29
  go_wp2_with fail
  refine (specShipOk_val _ _ _ _ false HS.out _ HI.out).mono ?_
  rintro e w' ⟨rfl, n1, rfl⟩
  have hz : w.heap.size ≤ ((w.alloc (.cells #[.int .i64 p, .int .i64 q] 36)).drewN n1).heap.size := (below_drewN HB.out n1).size
  have hb2 := below_drewN HB.out n1
  obtain ⟨w2, hw2⟩ : ∃ w2, (w.alloc (.cells #[.int .i64 p, .int .i64 q] 36)).drewN n1 = w2 := ⟨_, rfl⟩
  rw [hw2] at hz hb2 ⊢
  clear hw2 HI HB
  have HZ := Lib.hid hz; have HB := Lib.hid hb2; clear hz hb2 hab
  go_wp2_with fail
  go_ret2
  exact ⟨_, by first | rfl | trivial, OwnX.base (OwnX.made w2 w2.heap.size (Nat.le_refl _) 3) HZ.out, HB.out.alloc HZ.out _⟩

theorem Blk2.drewN {w : World} {B : Nat} {t : TypeId} {x y : Value} (h : Blk2 w B t x y) (m : Nat) : Blk2 (w.drewN m) B t x y := h.kept (below_drewN (Below.refl _ _) m) h.lt
theorem OwnX.drewN {w : World} {B : Nat} {t : TypeId} {v : Value} {xs : List Int} (h : OwnX w B t v xs) (m : Nat) : OwnX (w.drewN m) B t v xs := h.kept (below_drewN (Below.refl _ _) m)

set_option maxRecDepth 100000 in
set_option maxHeartbeats 4000000 in
theorem specChangedOf_in (g o n cap : Nat) (f : Nat → Int) (p q : Int) (hs : shipB n f = true) (w : World) (hi : Ints w (some ⟨g, o, none⟩) n f) (hgl : g < w.heap.size) (hr : Row w g o n f) :
    Calls Try.prog 29 #[.slice (some ⟨g, o, none⟩) n cap, .agg #[.int .i64 p, .int .i64 q]] w (GivesC (chL n f p q) (chB n f p q) w) := by
  obtain ⟨i0, hii, hz0, hz1, hz2⟩ := info_parts Try.infoInt
  have hab := alloc_below w (.cells #[.int .i64 p, .int .i64 q] 36)
  have HI := Lib.hid (hi.below hab (Nat.le_refl _)); clear hi
  have HR := Lib.hid (hr.below hab hgl); clear hr
  have HS := Lib.hid hs
  have HSI := Lib.hid (shipB_iff.1 hs)
  have HB := Lib.hid hab
  have HK := Lib.hid (Blk2.new w 36 (.int .i64 p) (.int .i64 q))
  have hsz : (w.alloc (.cells #[.int .i64 p, .int .i64 q] 36)).heap.size = w.heap.size + 1 := alloc_size _ _
  obtain ⟨w1, hw1⟩ : ∃ w1, w.alloc (.cells #[.int .i64 p, .int .i64 q] 36) = w1 := ⟨_, rfl⟩
  obtain ⟨L, hL⟩ : ∃ L, chL n f p q = L := ⟨_, rfl⟩
  obtain ⟨b, hb⟩ : ∃ b, chB n f p q = b := ⟨_, rfl⟩
  rw [hL, hb]
  have HL := Lib.hid hL; have HBB := Lib.hid hb
  have hn6 := (shipB_iff.1 hs).2.1
  have hn1 := (shipB_iff.1 hs).1
  have HGL := Lib.hid hgl
  clear hL hb hs hab hgl
  go_enter Try.func29, Try.ntmps29
  go_wp2_with fail
  rw [hw1] at HI HR HB HK hsz
  clear hw1
  refine (specShipOk_val _ _ _ _ true HS.out _ HI.out).mono ?_
  rintro e w2 ⟨rfl, n1, rfl⟩
  replace HR := Lib.hid (HR.out.drewN n1)
  replace HB := Lib.hid (below_drewN HB.out n1)
  replace HK := Lib.hid (HK.out.drewN n1)
  have hsz2 : (w1.drewN n1).heap.size = w.heap.size + 1 := hsz
  obtain ⟨w2, hw2⟩ : ∃ w2, w1.drewN n1 = w2 := ⟨_, rfl⟩
  rw [hw2] at HR HB HK hsz2 ⊢
  clear hw2 HI hsz
  have hmade : OwnX (w2.alloc (.cells #[] 3)) w2.heap.size 3 (.slice (some ⟨w2.heap.size, 0, none⟩) 0 0) [] := OwnX.made w2 _ (Nat.le_refl _) _
  have HO : Hid ((w2.alloc (.cells #[] 3)).ownsRow w2.heap.size 3 1 (.slice (some ⟨w2.heap.size, 0, none⟩) 0 0) 0 []) := Lib.hid hmade
  have k1 := Lib.hid (rowV_cells (HR.out.below (alloc_below w2 (.cells #[] 3)) (by have := HGL.out; omega)))
  have k2 := Lib.hid (rowV_one f n)
  have k3 : Hid (0 + n ≤ maxLen) := Lib.hid (by unfold maxLen; omega)
  have k4 : Hid ((0 + n) * 8 ≤ 140737488355328) := Lib.hid (by omega)
  have k5 : Hid (w2.heap.size ≤ (w2.alloc (.cells #[] 3)).heap.size) := Lib.hid (by rw [alloc_size]; omega)
  have k6 : Hid ((rowV f n).length = n * 1) := Lib.hid (by rw [rowV_len]; omega)
  have HAB := Lib.hid (alloc_below w2 (.cells #[] 3))
  clear hmade
  have HSZ := Lib.hid hsz2; clear hsz2
  go_wp2_with (at_builtin; refine wpList_append_own _ rfl (.tmp 12) (.tmp 13) 23 rfl w2.heap.size 3 i0 (.int .i64 0) 1 8 Try.underlying23 hii hz0 hz1 hz2 rfl (by decide) _ _ _ rfl HO.out ⟨g, o, none⟩ n cap (rowV f n) rfl k6.out k1.out k2.out k3.out k4.out k5.out ?_)
  intro v' w5 hown' hgrow _
  have hg5 : Below w2.heap.size w2 w5 := HAB.out.trans ((Below.refl w2.heap.size _).grown hgrow k5.out (fun q hq => (HO.out.lt q hq).1))
  have hrx := OwnX.rowV hown'
  obtain ⟨g2, c2, hv, hBg, hgl2, hc2, hM, hrw⟩ := hrx.rw (by rw [rowL_len]; exact hn1)
  rw [rowL_len] at hv hc2 hrw
  subst hv
  have HRW := Lib.hid hrw; have HM := Lib.hid hM; have HC2 := Lib.hid hc2; have HB5 := Lib.hid (below_onto HB.out hg5)
  have HBG := Lib.hid (show w.heap.size ≤ g2 by have := HSZ.out; omega)
  replace HK := Lib.hid (HK.out.kept hg5 (by have := HSZ.out; omega))
  replace HR := Lib.hid (HR.out.below hg5 (by have := HSZ.out; have := HGL.out; omega))
  have HOWN := Lib.hid (hrx.base (B' := w.heap.size) (by have := HSZ.out; omega))
  obtain ⟨hq0, hq1⟩ := HK.out.cell
  clear hown' hgrow hrx hrw hM hc2 hBg hgl2 hg5 k1 k2 k3 k4 k5 k6 HAB HO HB
  have hwn : IntKind.i64.wrap ((n : Int) - 1) = (n : Int) - 1 := wrap_in _ (by unfold I64; omega)
  by_cases h0 : 0 ≤ p ∧ p < n
  · have hin0 : inB 0 p ((n : Int) - 1) = true := inB_true h0.1 (by omega)
    have HIN := Lib.hid hin0
    obtain ⟨k, rfl⟩ := Int.eq_ofNat_of_zero_le h0.1
    have hkn : k < n := by omega
    clear hin0 h0
    cases hp : pkB q with
    | false =>
      have HP := Lib.hid hp; clear hp
      have HE := Lib.hid (chL_keep HS.out (okC_no (n := n) (f := f) (p := k) (q := q) (fun h => by rw [HP.out] at h; cases h.2.2.1)))
      rw [HL.out, HBB.out] at HE
      go_wp2_with fail
      refine (l1In_val _ _ _ true _ HIN.out).mono ?_
      rintro e w' ⟨rfl, rfl⟩
      go_wp2_with fail
      refine (l1In_val _ _ _ false _ (inB_pk.trans HP.out)).mono ?_
      rintro e w' ⟨rfl, rfl⟩
      go_wp2_with fail
      go_ret2
      rw [HE.out.2]
      exact ⟨_, by first | rfl | trivial, by rw [HE.out.1]; exact HOWN.out, HB5.out⟩
    | true =>
      have HP := Lib.hid hp; clear hp
      go_wp2_with fail
      refine (l1In_val _ _ _ true _ HIN.out).mono ?_
      rintro e w' ⟨rfl, rfl⟩
      go_wp2_with fail
      refine (l1In_val _ _ _ true _ (inB_pk.trans HP.out)).mono ?_
      rintro e w' ⟨rfl, rfl⟩
      go_wp2_with fail
      clear hq0 hq1
      go_loopw [7] (fun i wr => ∃ j : Nat, j ≤ n ∧ i = .int .i64 j ∧ Hid (inF q j f = false) ∧ Row wr g o n f ∧ Blk2 wr w.heap.size 36 (.int .i64 k) (.int .i64 q) ∧ Hid (Rw wr g2 3 c2 n (fun i => (rowL f n).getD i 0)) ∧ Hid (OwnX wr w.heap.size 3 (.slice (some ⟨g2, 0, none⟩) n c2) (rowL f n)) ∧ Hid (Below w.heap.size w wr)) (fun i _ => n - (intOf i).toNat)
      case atStart => exact ⟨0, Nat.zero_le _, rfl, Lib.hid (inF_zero _ _), HR.out, HK.out, HRW, HOWN, HB5⟩
      case round =>
        clear HR HK HRW HOWN HB5
        obtain ⟨j, hj, rfl, hin, hR, hK, HRW, HOWN, HB5⟩ := hrel
        by_cases hjn : j < n
        · have hji : (j : Int) < (n : Int) := by omega
          have hcj := hR j hjn
          obtain ⟨hq0, hq1⟩ := hK.cell
          cases he : (f j == q) with
          | true =>
            have HE := Lib.hid (chL_keep HS.out (okC_no (n := n) (f := f) (p := k) (q := q) (fun h => inF_no.1 h.2.2.2 j hjn (by simpa using he))))
            rw [HL.out, HBB.out] at HE
            go_wp2_with fail
            go_quiet (fail)
            go_wp2_with fail
            go_ret2
            rw [HE.out.2]
            exact ⟨_, by first | rfl | trivial, by rw [HE.out.1]; exact HOWN.out.drewN _, below_drewN HB5.out _⟩
          | false =>
            have HN := Lib.hid (show inF q (j + 1) f = false by rw [inF_succ, hin.out, he]; rfl)
            go_wp2_with fail
            go_quiet (fail)
            go_wp2_with fail
            go_roundw
            case rel => exact ⟨j + 1, by omega, by go_num, HN, hR.drewN _, hK.drewN _, Lib.hid (by obtain ⟨cur, h1, h2, h3⟩ := HRW.out; exact ⟨cur, h1, h2, h3⟩), Lib.hid (HOWN.out.drewN _), Lib.hid (below_drewN HB5.out _)⟩
            case measure => simp [intOf]; omega
        · have hji : ¬ (j : Int) < (n : Int) := by omega
          have hjn2 : j = n := by omega
          subst hjn2
          have HE := Lib.hid (chL_done (p := (k : Int)) HS.out (okC_iff.2 ⟨by omega, by omega, HP.out, hin.out⟩))
          rw [HL.out, HBB.out, Int.toNat_natCast] at HE
          obtain ⟨hq0, hq1⟩ := hK.cell
          have hk0 : (0 : Int) ≤ (k : Int) := by omega
          have hkj : (k : Int) < (j : Int) := by omega
          have hold := HRW.out.cell k (by omega)
          have hfz := HRW.out.frozen k
          obtain ⟨u, hu⟩ : ∃ u, (rowL f j).getD k 0 = u := ⟨_, rfl⟩
          rw [hu] at hold
          clear hu hR hK
          go_wp2_with fail
          go_ret2
          rw [HE.out.2]
          refine ⟨_, by first | rfl | trivial, ?_, HB5.out.setCell (p := ⟨g2, k, none⟩) HBG.out _⟩
          rw [HE.out.1]
          refine Rw.own (m := j) (Rw.rowL (HRW.out.set k q) (fun i hi => ?_)) (rowL_len _ _).symm HBG.out HC2.out HM.out
          show (if i = k then q else (rowL f j).getD i 0) = setF f k q i
          unfold setF
          rw [rowL_getD _ _ _ hi]
  · have hin0 : inB 0 p ((n : Int) - 1) = false := inB_false (fun h => h0 ⟨h.1, by omega⟩)
    have HIN := Lib.hid hin0
    have HE := Lib.hid (chL_keep HS.out (okC_no (n := n) (f := f) (p := p) (q := q) (fun h => h0 ⟨h.1, h.2.1⟩)))
    rw [HL.out, HBB.out] at HE
    clear hin0 h0
    go_wp2_with fail
    refine (l1In_val _ _ _ false _ HIN.out).mono ?_
    rintro e w' ⟨rfl, rfl⟩
    go_wp2_with fail
    go_ret2
    rw [HE.out.2]
    exact ⟨_, by first | rfl | trivial, by rw [HE.out.1]; exact HOWN.out, HB5.out⟩

theorem specChangedOf_any (a : Option Addr) (n cap : Nat) (f : Nat → Int) (p q : Int) (w : World) (hi : Ints w a n f) :
    Calls Try.prog 29 #[.slice a n cap, .agg #[.int .i64 p, .int .i64 q]] w (GivesC (chL n f p q) (chB n f p q) w) := by
  cases hs : shipB n f with
  | false => exact specChangedOf_no a n cap f p q hs w hi
  | true =>
    obtain ⟨b, o, rfl, hlt, hr⟩ := hi.row (shipB_iff.1 hs).1
    exact specChangedOf_in b o n cap f p q hs w hi hlt hr
theorem ch_len (n : Nat) (f : Nat → Int) (p q : Int) : (chL n f p q).length ≤ 6 ∧ ∀ x ∈ chL n f p q, I64 x := by
  unfold chL
  cases h : shipB n f with
  | false => exact ⟨by simp, fun x hx => (by cases hx)⟩
  | true =>
    rw [if_pos rfl, rowL_len]
    refine ⟨(shipB_iff.1 h).2.1, rowL_mem (P := I64) (fun i hi => ?_)⟩
    unfold chF
    cases h2 : okC n f p q with
    | false => have := ship_pk h hi; rw [if_neg (by simp)]; unfold I64; omega
    | true =>
      rw [if_pos rfl]
      obtain ⟨_, hpn, hq, _⟩ := okC_iff.1 h2
      unfold setF
      split
      · have := pkB_iff.1 hq; unfold I64; omega
      · have := ship_pk h hi; unfold I64; omega

end Go.Proofs.Ytibjdmmcnhlgnaa
