import Derived.Test.YtocjpolgghfbeaaFamE
namespace Go.Proofs.Ytocjpolgghfbeaa
open Go.RowKit Go.Maps

theorem fam_len_mono (F : Nat → Bool) {k l : Nat} (h : k ≤ l) : (fam F k).length ≤ (fam F l).length := by
  obtain ⟨R, e, _⟩ := fam_split F k l h
  rw [e, List.length_append]; omega
theorem fam_gap {G : Nat → Bool} {k l : Nat} (h : k ≤ l) (hG : ∀ t, k ≤ t → t < l → G t = false) : fam G l = fam G k := by
  induction l with
  | zero => have : k = 0 := by omega
            subst this; rfl
  | succ l ih =>
    by_cases e : k = l + 1
    · rw [e]
    · rw [fam_no (hG l (by omega) (by omega))]
      exact ih (by omega) (fun t h1 h2 => hG t h1 (by omega))
theorem fam_between {F : Nat → Bool} {k l : Nat} (e : (fam F k).length = (fam F l).length) : ∀ t, k ≤ t → t < l → F t = false := by
  intro t h1 h2
  cases hf : F t with
  | false => rfl
  | true =>
    have h3 := fam_len_mono F h1
    have h4 := fam_len_mono F (show t + 1 ≤ l by omega)
    rw [fam_yes hf, List.length_append] at h4
    simp at h4; omega
theorem fam_next {F : Nat → Bool} : ∀ {k i : Nat}, i < (fam F k).length → ∃ y : Nat, y < k ∧ F y = true ∧ (fam F k).getD i 0 = y ∧ (fam F y).length = i
  | 0, i, h => by simp [fam] at h
  | k + 1, i, h => by
    cases hf : F k with
    | false =>
      rw [fam_no hf] at h ⊢
      obtain ⟨y, h1, h2, h3, h4⟩ := fam_next h
      exact ⟨y, by omega, h2, h3, h4⟩
    | true =>
      rw [fam_yes hf] at h ⊢
      by_cases hi : i < (fam F k).length
      · obtain ⟨y, h1, h2, h3, h4⟩ := fam_next hi
        exact ⟨y, by omega, h2, by rw [append_getD_left hi]; exact h3, h4⟩
      · rw [List.length_append] at h
        have : i = (fam F k).length := by simp at h; omega
        subst this
        exact ⟨k, by omega, hf, by rw [append_getD_right (Nat.le_refl _), Nat.sub_self]; rfl, rfl⟩

/-- a list and a truth are handed back -/
def GivesB (xs : List Int) (b : Bool) (w : World) (e : Ending) (w' : World) : Prop := ∃ v, e = .returned (.tuple #[v, .bool b]) ∧ OwnX w' w.heap.size 3 v xs ∧ Below w.heap.size w w'

/-- the state of the loop that puts the sets behind -/
structure CompS (n : Nat) (f : Nat → Int) (F : Nat → Bool) (p : Nat) (w : World) (vall : Value) (k i : Nat) (vi : Value) (T : Nat → Bool) (vw : Value) (wr : World) : Prop where
  fi : FamAt wr w.heap.size p vi T
  out : OwnX wr w.heap.size 3 vw (withL n f F k)
  all : OwnX wr w.heap.size 3 vall (fam F 16)
  wp : vw.ownBlock ≠ some p
  wi : NoMeet vw vi
  ap : vall.ownBlock ≠ some p
  ai : NoMeet vall vi
  aw : NoMeet vall vw
  bel : Below w.heap.size w wr
  len : (fam F k).length = i
  k16 : k ≤ 16
  fresh : ∀ t, k ≤ t → T t = memS n f t
def CompR (n : Nat) (f : Nat → Int) (F : Nat → Bool) (p : Nat) (w : World) (vall : Value) (vw i : Value) (wr : World) : Prop :=
  ∃ (k j : Nat) (vi : Value) (T : Nat → Bool), i = .int .i64 j ∧ j ≤ (fam F 16).length ∧ CompS n f F p w vall k j vi T vw wr

section
variable {n : Nat} {f : Nat → Int} {F : Nat → Bool} {p : Nat} {w : World} {vall : Value} {k i y : Nat} {vi : Value} {T : Nat → Bool} {vw : Value} {wr : World}
theorem CompS.at (h : CompS n f F p w vall k i vi T vw wr) (hF : F y = true) (hl : (fam F y).length = i) : k ≤ y ∧ fam (newS F (memS n f)) y = fam (newS F (memS n f)) k := by
  have h1 : k ≤ y := by
    apply Classical.byContradiction; intro hlt
    have := fam_len_mono F (show y + 1 ≤ k by omega)
    rw [fam_yes hF, List.length_append] at this
    have := h.len
    simp at *; omega
  exact ⟨h1, fam_gap h1 (fun t h2 h3 => by unfold newS; rw [fam_between (h.len.trans hl.symm) t h2 h3]; rfl)⟩
theorem CompS.mine (h : CompS n f F p w vall k i vi T vw wr) : ∀ g, vw.ownBlock = some g → ¬ Mine p vi g := fun g hg e => by
  rcases e with e | e
  · subst e; exact h.wp hg
  · exact h.wi g hg e
theorem CompS.mineA (h : CompS n f F p w vall k i vi T vw wr) : ∀ g, vall.ownBlock = some g → ¬ Mine p vi g := fun g hg e => by
  rcases e with e | e
  · subst e; exact h.ap hg
  · exact h.ai g hg e
theorem CompS.old (h : CompS n f F p w vall k i vi T vw wr) (hF : F y = true) (hl : (fam F y).length = i) (hy : y < 16) (hT : T y = true) {v' : Value} {w' : World} (hf' : FamAt w' w.heap.size p v' (addS T y)) (hu : Upon (Mine p vi) wr w') (hn : NewOr wr vi v') :
    CompS n f F p w vall (y + 1) (i + 1) v' (addS T y) vw w' := by
  obtain ⟨h1, h2⟩ := h.at hF hl
  have hm : memS n f y = true := by rw [← h.fresh y h1]; exact hT
  have hw : withL n f F (y + 1) = withL n f F k := by
    unfold withL
    rw [fam_no (S := newS F (memS n f)) (by unfold newS; rw [hm]; simp), h2]
  exact ⟨hf', by rw [hw]; exact hu.ownX h.out h.mine, hu.ownX h.all h.mineA, h.wp, h.wi.new hn (fun g hg => (h.out.lt hg).2), h.ap, h.ai.new hn (fun g hg => (h.all.lt hg).2), h.aw, h.bel.trans (hu.below h.fi.mine h.bel.size),
    by rw [fam_yes hF, List.length_append, hl]; rfl, by omega, fun t ht => by rw [addS_old (by omega)]; exact h.fresh t (by omega)⟩
theorem CompS.new (h : CompS n f F p w vall k i vi T vw wr) (hF : F y = true) (hl : (fam F y).length = i) (hy : y < 16) (hT : T y = false) {v' vw' : Value} {w' w'' : World} (hf' : FamAt w' w.heap.size p v' (addS T y)) (hu : Upon (Mine p vi) wr w') (hn : NewOr wr vi v')
    (hw' : OwnX w'' w.heap.size 3 vw' (withL n f F k ++ [(y : Int)])) (hu2 : Upon (fun g => vw.ownBlock = some g) w' w'') (hn2 : NewOr w' vw vw') :
    CompS n f F p w vall (y + 1) (i + 1) v' (addS T y) vw' w'' := by
  obtain ⟨h1, h2⟩ := h.at hF hl
  have hm : memS n f y = false := by rw [← h.fresh y h1]; exact hT
  have hw : withL n f F (y + 1) = withL n f F k ++ [(y : Int)] := by
    unfold withL
    rw [fam_yes (S := newS F (memS n f)) (by unfold newS; rw [hm, hF]; rfl), h2, List.append_assoc]
  have hwi : NoMeet vw v' := h.wi.new hn (fun g hg => (h.out.lt hg).2)
  have hai : NoMeet vall v' := h.ai.new hn (fun g hg => (h.all.lt hg).2)
  have hbel : Below w.heap.size w w' := h.bel.trans (hu.below h.fi.mine h.bel.size)
  refine ⟨hf'.upon hu2 h.wp (fun g hg e => hwi g e hg), by rw [hw]; exact hw', hu2.ownX (hu.ownX h.all h.mineA) (fun g hg e => h.aw g hg e), hn2.ne hf'.lt h.wp, ?_, h.ap, hai, ?_, hbel.trans (hu2.below (fun g hg => (h.out.lt hg).1) hbel.size),
    by rw [fam_yes hF, List.length_append, hl]; rfl, by omega, fun t ht => by rw [addS_old (by omega)]; exact h.fresh t (by omega)⟩
  · exact (hwi.swap.new hn2 (fun g hg => (hf'.own.lt hg).2)).swap
  · refine h.aw.new hn2 (fun g hg => ?_)
    have := (h.all.lt hg).2
    have := hu.size
    omega
end

set_option maxRecDepth 100000 in
set_option maxHeartbeats 12800000 in
theorem completed_any (K : Nat) (a : Option Addr) (n cap : Nat) (f : Nat → Int) (F : Nat → Bool) (L : Nat → List Int) (w : World) (hi : Ints w a n f) (hC : Hid (famOkB n f = true → Clos (memS n f) L F))
    (hE : ∀ (args : Array Value) (w : World), Sem.run Try.prog (callFunc K args) w = .ok (.enter K args) w)
    (hF : Hid (famOkB n f = true → ∀ (g cp : Nat) (wr : World) (s : Nat), 1 ≤ s → s < 16 → Row wr g 0 n (fun i => (fam (memS n f) 16).getD i 0) → g < wr.heap.size → Calls Try.prog K #[.slice (some ⟨g, 0, none⟩) n cp, .int .i64 s] wr (Gives 3 (L s) wr))) :
    Calls Try.prog 118 #[.slice a n cap, .func (.func K) #[] #[]] w (GivesB (doneL n f F) (roomB n f F) w) := by
  obtain ⟨i0, hii, hz0, hz1, hz2⟩ := info_parts Try.infoInt
  have HI := Lib.hid hi; clear hi
  cases hf : famOkB n f with
  | false =>
    have hrm : roomB n f F = false := by unfold roomB; rw [hf]; rfl
    have HRM := Lib.hid hrm
    have HDL := Lib.hid (show doneL n f F = [] by unfold doneL; rw [if_neg (by rw [hrm]; decide)])
    have HFF := Lib.hid hf
    clear hrm hf hC hF
    go_enter Try.func118, Try.ntmps118
    go_wp2_with fail
    refine (familyFrom_any a n cap f _ HI.out).mono ?_
    rintro e w1 ⟨hb, ⟨hf, v, rfl, hown⟩ | ⟨hf, rfl⟩⟩
    · rw [HFF.out] at hf; cases hf
    · clear hf
      have HB := Lib.hid (below_onto hb (alloc_below w1 (.cells #[.slice none 0 0] 69)))
      clear hb
      go_wp2_with fail
      go_ret2
      rw [HDL.out, HRM.out]
      exact ⟨_, by first | rfl | trivial, OwnX.nil _ _ _, HB.out⟩
  | true =>
    have hP := famOk_iff.1 hf
    have HP := Lib.hid hP
    have HC := Lib.hid (hC.out hf)
    have HFF := Lib.hid hf
    have HFO := Lib.hid (hF.out hf)
    have h1 := hP.lo
    have h7 := hP.hi
    have HN := Lib.hid (mem_len hP n (Nat.le_refl _))
    have HSUB := Lib.hid HC.out.sub
    clear hf hP hC hF
    go_enter Try.func118, Try.ntmps118
    go_wp2_with fail
    refine (familyFrom_any a n cap f _ HI.out).mono ?_
    rintro e w1 ⟨hb, ⟨hf, v, rfl, hown⟩ | ⟨hf, rfl⟩⟩
    · clear hf
      obtain ⟨gi, ci, e1, hgi1, hgi2, _, _, hrowi, _⟩ := hown.shape (by rw [HN.out]; exact h1)
      rw [HN.out] at e1 hrowi
      subst e1
      have hal := alloc_below w1 (.cells #[.slice (some ⟨gi, 0, none⟩) n ci] 69)
      have HF2 : Hid (FamAt (w1.alloc (.cells #[.slice (some ⟨gi, 0, none⟩) n ci] 69)) w.heap.size w1.heap.size (.slice (some ⟨gi, 0, none⟩) n ci) (memS n f)) :=
        Lib.hid ⟨(cell_new w1 _ _).1, hown.kept hal, World.frozen?_alloc_at _ _ w1.heap.size 0 rfl, fun e => by have := (hown.lt e).2; omega, hb.size⟩
      have HB2 := Lib.hid (below_onto hb hal)
      have HR2 := Lib.hid (hrowi.below hal hgi2)
      have hg2 := Nat.lt_of_lt_of_le hgi2 hal.size
      clear hown hb hal hrowi
      go_wp2_with fail
      refine (closure_any K gi n ci (memS n f) F L HN.out h1 HC.out _ HR2.out hg2 hE (Lib.hid (HFO.out gi ci))).mono ?_
      rintro e w3 ⟨vall, rfl, hall, hb3⟩
      obtain ⟨q, hq⟩ : ∃ q, (fam F 16).length = q := ⟨_, rfl⟩
      have HQ := Lib.hid hq
      have hq16 : q ≤ 16 := by rw [← hq]; exact fam_len_le _ _
      obtain ⟨aa, ca, rfl⟩ := hall.slice
      rw [hq] at hall
      rw [hq]
      have HF3 := Lib.hid (HF2.out.next hb3)
      have HB3 := Lib.hid (below_onto HB2.out hb3)
      have HALL := Lib.hid hall
      have HALT := Lib.hid (fun g (hg : (Value.slice aa q ca).ownBlock = some g) => hall.lt hg)
      have hsz := alloc_size w1 (.cells #[.slice (some ⟨gi, 0, none⟩) n ci] 69)
      have HSZ := Lib.hid hsz
      clear hall hb3 hsz hq
      obtain ⟨p, hp⟩ : ∃ p, w1.heap.size = p := ⟨_, rfl⟩
      rw [hp] at HF2 HF3 HSZ hgi2 ⊢
      by_cases hq7 : q ≤ 7
      · have hrm : roomB n f F = true := by
          unfold roomB
          rw [HFF.out, with_all HP.out HSUB.out, HQ.out, decide_eq_true hq7]; rfl
        have HRM := Lib.hid hrm
        have HDL := Lib.hid (show doneL n f F = withL n f F 16 by unfold doneL; rw [if_pos hrm])
        clear hrm
        have hqi : ¬ (q : Int) > 7 := by omega
        have hi3 := HI.out.below HB3.out (Nat.le_refl _)
        obtain ⟨b, o, rfl, hbl, hrow⟩ := hi3.row h1
        have HR3 := Lib.hid hrow
        clear hi3 hrow
        go_wp2_with fail
        refine (cloneI_any b o n cap f h1 (by omega) _ HR3.out hbl).mono ?_
        rintro e w4 ⟨vw, rfl, hvw, hb4⟩
        have hF4 := HF3.out.next hb4
        have hst : CompR n f F p w (.slice aa q ca) vw (.int .i64 0) w4 := by
          have hvl : ∀ g, vw.ownBlock = some g → w3.heap.size ≤ g := fun g hg => (hvw.lt hg).1
          have hw0 : withL n f F 0 = rowL f n := by unfold withL rowL; rw [fam]; simp
          refine ⟨0, 0, _, memS n f, rfl, Nat.zero_le _, hF4, by rw [hw0]; exact hvw.base HB3.out.size, (HALL.out.kept hb4).base HB2.out.size, fun e => ?_, fun g h2 h3 => ?_, fun e => ?_, fun g h2 h3 => ?_, fun g h2 h3 => ?_, below_onto HB3.out hb4, rfl, by omega, fun t _ => rfl⟩
          · have := hvl _ e; have := HF3.out.lt; omega
          · have := hvl _ h2; have := (HF3.out.own.lt h3).2; omega
          · have := (HALT.out _ e).1; have := HSZ.out; omega
          · have := (HALT.out _ h2).1; have := (HF2.out.own.lt h3).2; omega
          · have := (HALT.out _ h2).2; have := hvl _ h3; omega
        obtain ⟨a4, c4, rfl⟩ := hvw.slice
        clear hvw hb4 hF4
        go_wp2_with fail
        go_loopw [9, 29] (fun v i wr => CompR n f F p w (.slice aa q ca) v i wr) (fun _ i _ => q - (intOf i).toNat)
        case atStart => exact hst
        case round =>
          clear hst
          obtain ⟨k, j, vi, T, rfl, hj, h⟩ := hrel
          rw [HQ.out] at hj
          have HH := Lib.hid h
          obtain ⟨a9, c9, rfl⟩ := h.out.slice
          by_cases hlt : j < q
          · have hji : (j : Int) < (q : Int) := by omega
            obtain ⟨ga, ca', e1, _, _, _, _, hrowa, _⟩ := h.all.shape (by rw [HQ.out]; omega)
            rw [HQ.out] at e1 hrowa
            injection e1 with e2 _ e3
            subst e2; subst e3
            have hc := hrowa j hlt
            rw [Nat.zero_add] at hc
            obtain ⟨y, hy16, hFy, hy, hyl⟩ := fam_next (F := F) (k := 16) (i := j) (by rw [HQ.out]; exact hlt)
            have hc2 : wr.cell? ⟨ga, j, none⟩ = some (.int .i64 y) := by rw [hc]; show some (Value.int .i64 ((fam F 16).getD j 0)) = _; rw [hy]
            have HY := Lib.hid hFy; have HYL := Lib.hid hyl
            have hBq := h.bel.size
            clear hc hrowa h hy hFy hyl
            cases hT : T y with
            | true =>
              have HT := Lib.hid hT
              clear hT
              go_wp2_with fail
              refine (put_old w.heap.size p vi T y hy16 _ hBq HH.out.fi HT.out).mono ?_
              rintro e w5 ⟨rfl, v', hf', hu, hnw⟩
              have HNX := Lib.hid (HH.out.old HY.out HYL.out hy16 HT.out hf' hu hnw)
              clear hf' hu hnw
              go_wp2_with fail
              go_roundw
              case rel => exact ⟨_, j + 1, _, _, by go_num, by rw [HQ.out]; omega, HNX.out⟩
              case measure => simp [intOf]; omega
            | false =>
              have HT := Lib.hid hT
              clear hT
              go_wp2_with fail
              refine (put_new w.heap.size p vi T y hy16 _ hBq HH.out.fi HT.out).mono ?_
              rintro e w5 ⟨rfl, v', hf', hu, hnw⟩
              have hal := alloc_below w5 (.cells #[.int .i64 y] 3)
              have hB5 : w.heap.size ≤ w5.heap.size := Nat.le_trans hBq hu.size
              have hL5 : (withL n f F k).length ≤ 1000 := by rw [with_len]; have := fam_len_le (newS F (memS n f)) k; have := HH.out.k16; omega
              obtain ⟨vw', w6, hr6, hown6, hgr6, _, hat6⟩ := run_append_own_at (P := Try.prog) (w5.alloc (.cells #[.int .i64 y] 3)) w.heap.size 23 23 3 i0 (.int .i64 0) 1 8 Try.underlying23 hii hz0 hz1 hz2 rfl (by decide) _ _ _
                ((hu.ownX HH.out.out HH.out.mine).kept hal) ⟨w5.heap.size, 0, none⟩ 1 1 [.int .i64 y] rfl (cell_one_new w5 (.int .i64 y) 3) (fun u hu => by simp at hu; subst hu; rfl) (by unfold maxLen; omega) (by omega) (Nat.le_trans hB5 hal.size)
              have hn6 : NewOr (w5.alloc (.cells #[.int .i64 y] 3)) (.slice a9 (withL n f F k).length c9) vw' := by
                rcases hat6 with h | h
                · exact .inl h
                · exact .inr ⟨_, h, Nat.le_refl _⟩
              have HNX := Lib.hid (HH.out.new HY.out HYL.out hy16 HT.out hf' hu hnw (OwnX.snoc hown6) ((Upon.of_below hal).trans (Upon.of_grown hgr6) (fun _ _ e => e)) (hn6.up hal.size))
              have HR6 := Lib.hid hr6
              clear hf' hu hnw hal hB5 hL5 hr6 hown6 hgr6 hat6 hn6
              go_wp2_with (at_builtin; refine Lib.wpList_append_run _ rfl _ _ _ _ rfl _ _ rfl rfl _ _ HR6.out ?_)
              go_roundw
              case rel => exact ⟨_, j + 1, _, _, by go_num, by rw [HQ.out]; omega, HNX.out⟩
              case measure => simp [intOf]; omega
          · have hji : ¬ (j : Int) < (q : Int) := by omega
            have hjq : j = q := by omega
            subst hjq
            have HOUT : Hid (OwnX wr w.heap.size 3 (.slice a9 (withL n f F k).length c9) (withL n f F 16)) := Lib.hid (by
              have hw : withL n f F 16 = withL n f F k := by
                unfold withL
                rw [fam_gap h.k16 (fun t h2 h3 => by unfold newS; rw [fam_between (h.len.trans HQ.out.symm) t h2 h3]; rfl)]
              rw [hw]; exact h.out)
            clear h
            go_wp2_with fail
            go_ret2
            rw [HDL.out, HRM.out]
            exact ⟨_, by first | rfl | trivial, HOUT.out, HH.out.bel⟩
      · have hrm : roomB n f F = false := by
          unfold roomB
          rw [HFF.out, with_all HP.out HSUB.out, HQ.out, decide_eq_false hq7]; rfl
        have HRM := Lib.hid hrm
        have HDL := Lib.hid (show doneL n f F = [] by unfold doneL; rw [if_neg (by rw [hrm]; decide)])
        clear hrm
        have hqi : (q : Int) > 7 := by omega
        go_wp2_with fail
        go_ret2
        rw [HDL.out, HRM.out]
        exact ⟨_, by first | rfl | trivial, OwnX.nil _ _ _, HB3.out⟩
    · rw [HFF.out] at hf; cases hf

set_option maxRecDepth 100000 in
set_option maxHeartbeats 1600000 in
theorem WithPoints_any (a : Option Addr) (n cap : Nat) (f : Nat → Int) (w : World) (hi : Ints w a n f) :
    Calls Try.prog 99 #[.slice a n cap] w (GivesB (doneL n f (FP (memS n f))) (roomB n f (FP (memS n f))) w) := by
  have HI := Lib.hid hi; clear hi
  have HE := Lib.hid (enters_of (P := Try.prog) Try.func119 (by kernel_rfl) rfl)
  go_enter Try.func99, Try.ntmps99
  go_wp2_with fail
  refine (completed_any 119 a n cap f (FP (memS n f)) (fun s => ptsL (s : Int) 4) _ HI.out (Lib.hid fun h => clos_pts (fun t ht => memS_rng (famOk_iff.1 h) ht)) HE.out (Lib.hid fun _ g cp wr s _ _ _ _ => points_any _ _ wr)).mono ?_
  rintro e w1 ⟨v, rfl, hown, hb⟩
  have HO := Lib.hid hown; have HB := Lib.hid hb; clear hown hb
  go_wp2_with fail
  go_ret2
  exact ⟨_, by first | rfl | trivial, HO.out, HB.out⟩

set_option maxRecDepth 100000 in
set_option maxHeartbeats 1600000 in
theorem WithSums_any (a : Option Addr) (n cap : Nat) (f : Nat → Int) (w : World) (hi : Ints w a n f) :
    Calls Try.prog 100 #[.slice a n cap] w (GivesB (doneL n f (FS n f)) (roomB n f (FS n f)) w) := by
  have HI := Lib.hid hi; clear hi
  have HE := Lib.hid (enters_of (P := Try.prog) Try.func120 (by kernel_rfl) rfl)
  go_enter Try.func100, Try.ntmps100
  go_wp2_with fail
  refine (completed_any 120 a n cap f (FS n f) (fun s => sumL (memS n f) (s : Int)) _ HI.out (Lib.hid fun h => clos_sums (famOk_iff.1 h)) HE.out (Lib.hid fun h g cp wr s _ _ hr hg => by
    have hl := mem_len (famOk_iff.1 h) n (Nat.le_refl _)
    have e : sumL (memS n f) (s : Int) = rowL (fun k => orI (s : Int) ((fam (memS n f) 16).getD k 0)) n := by rw [sumL_row, hl]
    rw [e]
    exact sums_row g 0 n cp _ (s : Int) (by have := (famOk_iff.1 h).hi; omega) wr hr hg)).mono ?_
  rintro e w1 ⟨v, rfl, hown, hb⟩
  have HO := Lib.hid hown; have HB := Lib.hid hb; clear hown hb
  go_wp2_with fail
  go_ret2
  exact ⟨_, by first | rfl | trivial, HO.out, HB.out⟩
end Go.Proofs.Ytocjpolgghfbeaa
