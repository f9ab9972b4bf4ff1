import Derived.Test.YtibjdmmcnhlgnaaPlT
namespace Go.Proofs.Ytibjdmmcnhlgnaa
set_option linter.unusedVariables false
set_option linter.unusedSimpArgs false
open Go.RowKit Go.Maps

theorem Ships.lt {w : World} {B n : Nat} {v : Value} {L : List (List Int)} {rs : List (Nat × Nat)} (h : Ships w B n v L rs) : ∀ r ∈ rs, B ≤ r.1 ∧ r.1 < w.heap.size := by
  intro r hr
  obtain ⟨i, hi, e⟩ := List.getElem_of_mem hr
  have h1 := (h.row i (by rw [← h.len]; exact hi)).1
  have e2 : rs.getD i (0, 0) = r := by rw [List.getD_eq_getElem?_getD, List.getElem?_eq_getElem hi, ← e]; rfl
  rw [e2] at h1
  exact World.ownsRow.lt h1 _ rfl
theorem Ships.kept {w w' : World} {B n : Nat} {v : Value} {L : List (List Int)} {rs : List (Nat × Nat)} (h : Ships w B n v L rs) (hb : Below w.heap.size w w') : Ships w' B n v L rs :=
  ⟨ownsRow_same h.own (fun g hg => hb.block g (World.ownsRow.lt h.own g hg).2), fun i hi => ⟨(h.row i hi).1.kept hb, (h.row i hi).2⟩, h.dis, h.apart⟩
theorem Ships.snoc {w w' : World} {B n : Nat} {v v' : Value} {L : List (List Int)} {rs : List (Nat × Nat)} {tmp : Obj} (h : Ships w B n v L rs) {g c : Nat} {l : List Int} (hl : OwnX w B 3 (.slice (some ⟨g, 0, none⟩) n c) l) (hc : n ≤ c)
    (hg : ∀ r ∈ rs, r.1 ≠ g) (hv : v.ownBlock ≠ some g)
    (hown' : w'.ownsRow B 23 1 v' (L.length + 1) (rs.map (fun r => Value.slice (some ⟨r.1, 0, none⟩) n r.2) ++ [.slice (some ⟨g, 0, none⟩) n c])) (hgrow : (w.alloc tmp).grownBy w' v.ownBlock) (hat : v'.ownBlock = v.ownBlock ∨ v'.ownBlock = some (w.heap.size + 1)) :
    Ships w' B n v' (L ++ [l]) (rs ++ [(g, c)]) := by
  have hlen := h.len
  have hgl := World.ownsRow.lt hl g rfl
  refine ⟨?_, fun i hi => ?_, ?_, fun r hr e => ?_⟩
  · rw [List.length_append, List.map_append]; exact hown'
  · rw [List.length_append] at hi
    by_cases e : i < L.length
    · have h1 := h.row i e
      have e2 : (rs ++ [(g, c)]).getD i (0, 0) = rs.getD i (0, 0) := by rw [List.getD_eq_getElem?_getD, List.getElem?_append_left (by omega), ← List.getD_eq_getElem?_getD]
      have e3 : (L ++ [l]).getD i [] = L.getD i [] := by rw [List.getD_eq_getElem?_getD, List.getElem?_append_left (by omega), ← List.getD_eq_getElem?_getD]
      rw [e2, e3]
      have hm : rs.getD i (0, 0) ∈ rs := by rw [List.getD_eq_getElem?_getD, List.getElem?_eq_getElem (by omega : i < rs.length)]; exact List.getElem_mem _
      exact ⟨OwnX.at h1.1 (grown_at hgrow (h.lt _ hm).2 (fun e => h.apart _ hm e.symm)), h1.2⟩
    · have : i = L.length := by simp at hi; omega
      subst this
      have e2 : (rs ++ [(g, c)]).getD L.length (0, 0) = (g, c) := by rw [List.getD_eq_getElem?_getD, List.getElem?_append_right (by omega), hlen, Nat.sub_self]; rfl
      have e3 : (L ++ [l]).getD L.length [] = l := by rw [List.getD_eq_getElem?_getD, List.getElem?_append_right (by omega), Nat.sub_self]; rfl
      rw [e2, e3]
      exact ⟨OwnX.at hl (grown_at hgrow hgl.2 (fun e => hv e.symm)), hc⟩
  · rw [List.map_append, List.nodup_append]
    refine ⟨h.dis, by simp, fun a ha b hb e => ?_⟩
    simp at hb
    subst hb; subst e
    obtain ⟨r, hr, e⟩ := List.mem_map.1 ha
    exact hg r hr e
  · rcases List.mem_append.1 hr with hr | hr
    · rcases hat with e2 | e2
      · rw [e2] at e; exact h.apart r hr e
      · rw [e2] at e
        have := (h.lt r hr).2
        have e : w.heap.size + 1 = r.1 := by simpa using e
        omega
    · rw [List.mem_singleton] at hr
      subst hr
      rcases hat with e2 | e2
      · rw [e2] at e; exact hv e
      · rw [e2] at e
        have e : w.heap.size + 1 = g := by simpa using e
        have := hgl.2
        omega

/-- the state of the model's loop: the ships so far, and the last of them -/
def SyS (n : Nat) (f P Q : Nat → Int) (R0 : Nat) (w : World) (k : Nat) (vo vn : Value) (wr : World) : Prop :=
  ∃ rs g c, vn = .slice (some ⟨g, 0, none⟩) n c ∧ n ≤ c ∧ OwnX wr R0 3 (.slice (some ⟨g, 0, none⟩) n c) (rowL (nowF n f P Q k) n) ∧ Ships wr R0 n vo (stL n f P Q k) rs ∧ Below R0 w wr

theorem specStory_made (w : World) (n : Nat) : Ships (w.alloc (.cells #[] 23)) w.heap.size n (.slice (some ⟨w.heap.size, 0, none⟩) 0 0) [] [] :=
  ⟨World.ownsRow_made w #[] 0 (Nat.le_refl _) (by unfold maxLen; omega) rfl, fun i hi => (by cases hi), List.nodup_nil, fun r hr => (by cases hr)⟩

set_option maxRecDepth 100000 in
set_option maxHeartbeats 1600000 in
theorem specStoryOf_no (a b : Option Addr) (n c m c2 : Nat) (f P Q : Nat → Int) (hm : m ≤ 9223372036854775807) (hs : syB n f m = false) (w : World) (hi : Ints w a n f) :
    Calls Try.prog 33 #[.slice a n c, .slice b m c2] w (StoryGives n (syL n f P Q m) w) := by
  have hab := alloc_below w (.cells #[] 23)
  have HI := Lib.hid (hi.below hab (Nat.le_refl _)); have HL := Lib.hid (show syL n f P Q m = [] by unfold syL; rw [hs]; rfl)
  have HMD := Lib.hid (specStory_made w n)
  have HB := Lib.hid hab
  rw [HL.out]
  clear hi hab
  cases hv : shipB n f with
  | false =>
    have HV := Lib.hid hv; clear hv hs
    go_enter Try.func33, Try.ntmps33
    go_wp2_with fail
    refine (specShipOk_val _ _ _ _ false HV.out _ HI.out).mono ?_
    rintro e w' ⟨rfl, n1, rfl⟩
    go_wp2_with fail
    go_ret
    exact ⟨_, [], by first | rfl | trivial, (HMD.out.kept (below_drewN (Below.refl _ _) n1)), below_drewN HB.out n1⟩
  | true =>
    have hd : decide ((20 : Int) < (m : Int)) = true := by
      unfold syB at hs
      rw [hv, Bool.true_and] at hs
      have := of_decide_eq_false hs
      simp; omega
    have HV := Lib.hid hv; clear hv hs
    go_enter Try.func33, Try.ntmps33
    go_wp2_with fail
    refine (specShipOk_val _ _ _ _ true HV.out _ HI.out).mono ?_
    rintro e w' ⟨rfl, n1, rfl⟩
    go_wp2_with fail
    go_ret
    exact ⟨_, [], by first | rfl | trivial, (HMD.out.kept (below_drewN (Below.refl _ _) n1)), below_drewN HB.out n1⟩

set_option maxRecDepth 100000 in
set_option maxHeartbeats 4000000 in
theorem specStoryOf_in (g0 o0 n c m c2 : Nat) (b : Option Addr) (f P Q : Nat → Int) (hs : syB n f m = true) (w : World) (hi : Ints w (some ⟨g0, o0, none⟩) n f) (hr : Row w g0 o0 n f) (hg0 : g0 < w.heap.size) (hp : Prs w b m P Q) :
    Calls Try.prog 33 #[.slice (some ⟨g0, o0, none⟩) n c, .slice b m c2] w (StoryGives n (syL n f P Q m) w) := by
  obtain ⟨i0, hii, hz0, hz1, hz2⟩ := info_parts Try.infoInt
  obtain ⟨j0, hjj, hy0, hy1, hy2⟩ := info_parts Try.infoIntS
  have h2 := Bool.and_eq_true_iff.1 hs
  have hm := of_decide_eq_true h2.2
  have hn := shipB_iff.1 h2.1
  have hn1 := hn.1; have hn6 := hn.2.1
  have hd : decide ((20 : Int) < (m : Int)) = false := by simp; omega
  have hab := alloc_below w (.cells #[] 23)
  have HI := Lib.hid (hi.below hab (Nat.le_refl _))
  have HR := Lib.hid (hr.below hab hg0)
  have HMD := Lib.hid (specStory_made w n)
  have HB := Lib.hid hab
  have HSH := Lib.hid h2.1
  have HP := Lib.hid hp; have HG := Lib.hid hg0
  have HL := Lib.hid (show syL n f P Q m = stL n f P Q m by unfold syL; rw [hs]; rfl)
  rw [HL.out]
  have hz1' : (w.alloc (.cells #[] 23)).heap.size = w.heap.size + 1 := alloc_size _ _
  clear hi hr hs h2 hn hp hab hg0
  go_enter Try.func33, Try.ntmps33
  go_wp2_with fail
  refine (specShipOk_val _ _ _ _ true HSH.out _ HI.out).mono ?_
  rintro e w' ⟨rfl, n1, rfl⟩
  replace HR := Lib.hid (HR.out.drewN n1)
  replace HMD := Lib.hid (HMD.out.kept (below_drewN (Below.refl _ _) n1))
  replace HB := Lib.hid (below_drewN HB.out n1)
  have hz2' : ((w.alloc (.cells #[] 23)).drewN n1).heap.size = w.heap.size + 1 := hz1'
  obtain ⟨w2, hw2⟩ : ∃ w2, (w.alloc (.cells #[] 23)).drewN n1 = w2 := ⟨_, rfl⟩
  rw [hw2] at HR HMD HB hz2' ⊢
  clear hw2 HI hz1'
  have hmade : OwnX (w2.alloc (.cells #[] 3)) w2.heap.size 3 (.slice (some ⟨w2.heap.size, 0, none⟩) 0 0) [] := OwnX.made w2 _ (Nat.le_refl _) _
  have HO : Hid ((w2.alloc (.cells #[] 3)).ownsRow w2.heap.size 3 1 (.slice (some ⟨w2.heap.size, 0, none⟩) 0 0) 0 []) := Lib.hid hmade
  have k1 := Lib.hid (rowV_cells (HR.out.below (alloc_below w2 (.cells #[] 3)) (by have := HG.out; omega)))
  have k2 := Lib.hid (rowV_one f n)
  have k3 : Hid (0 + n ≤ maxLen) := Lib.hid (by unfold maxLen; omega)
  have k4 : Hid ((0 + n) * 8 ≤ 140737488355328) := Lib.hid (by omega)
  have k5 : Hid (w2.heap.size ≤ (w2.alloc (.cells #[] 3)).heap.size) := Lib.hid (by rw [alloc_size]; omega)
  have k6 : Hid ((rowV f n).length = n * 1) := Lib.hid (by rw [rowV_len]; omega)
  have HAB := Lib.hid (alloc_below w2 (.cells #[] 3))
  have HSZ := Lib.hid hz2'
  clear hmade hz2'
  go_wp2_with (at_builtin; refine wpList_append_own _ rfl (.tmp 20) (.tmp 21) 23 rfl w2.heap.size 3 i0 (.int .i64 0) 1 8 Try.underlying23 hii hz0 hz1 hz2 rfl (by decide) _ _ _ rfl HO.out ⟨g0, o0, none⟩ n c (rowV f n) rfl k6.out k1.out k2.out k3.out k4.out k5.out ?_)
  intro v' w5 hown' hgrow _
  have hg5 : Below w2.heap.size w2 w5 := HAB.out.trans ((Below.refl w2.heap.size _).grown hgrow k5.out (fun q hq => (HO.out.lt q hq).1))
  have hrx := OwnX.rowV hown'
  obtain ⟨g2, c3, hv, hBg, hgl2, hc2, _, _⟩ := hrx.rw (by rw [rowL_len]; exact hn1)
  rw [rowL_len] at hv hc2
  subst hv
  have HB5 := Lib.hid (below_onto HB.out hg5)
  have HMD5 := Lib.hid (HMD.out.kept hg5)
  have HOWN := Lib.hid (hrx.base (B' := w.heap.size) (by have := HSZ.out; omega))
  have HS5 := Lib.hid (show w2.heap.size ≤ g2 ∧ g2 < w5.heap.size ∧ w.heap.size + 1 ≤ w5.heap.size from ⟨hBg, hgl2, by have := hg5.size; have := HSZ.out; omega⟩)
  clear hown' hgrow hrx hBg hgl2 hg5 k1 k2 k3 k4 k5 k6 HAB HO HB HMD
  have k1 := Lib.hid (fun (j : Nat) (u : Value) (h : [Value.slice (some ⟨g2, 0, none⟩) n c3][j]? = some u) => cell_one_new w5 (.slice (some ⟨g2, 0, none⟩) n c3) 23 j u h)
  have k2 : Hid (∀ u ∈ [Value.slice (some ⟨g2, 0, none⟩) n c3], u.oneCell' = true) := Lib.hid (by intro u hu; simp at hu; subst hu; rfl)
  have k3 : Hid (0 + 1 ≤ maxLen) := Lib.hid (by unfold maxLen; omega)
  have k4 : Hid ((0 + 1) * 24 ≤ 140737488355328) := Lib.hid (by omega)
  have k5 : Hid (w.heap.size ≤ (w5.alloc (.cells #[.slice (some ⟨g2, 0, none⟩) n c3] 23)).heap.size) := Lib.hid (by rw [alloc_size]; have := HS5.out; omega)
  have HO : Hid ((w5.alloc (.cells #[.slice (some ⟨g2, 0, none⟩) n c3] 23)).ownsRow w.heap.size 23 1 (.slice (some ⟨w.heap.size, 0, none⟩) 0 0) 0 []) := Lib.hid (HMD5.out.own.alloc _)
  go_wp2_with (at_builtin; refine wpList_append_own_at _ rfl (.tmp 23) (.tmp 25) 45 rfl w.heap.size 23 j0 (.slice none 0 0) 1 24 Try.underlying45 hjj hy0 hy1 hy2 rfl (by decide) _ _ _ rfl HO.out ⟨w5.heap.size, 0, none⟩ 1 1 [.slice (some ⟨g2, 0, none⟩) n c3] rfl rfl k1.out k2.out k3.out k4.out k5.out ?_)
  intro v6 w6 hown6 hgrow6 _ hat6
  have hsh := HMD5.out.snoc HOWN.out hc2 (fun r hr => (by cases hr)) (by simp only [Value.ownBlock]; intro e; injection e with e; have := HS5.out; have := HSZ.out; omega) hown6 hgrow6 hat6
  have hb6 : Below w.heap.size w w6 := (HB5.out.alloc HB5.out.size _).grown hgrow6 (by rw [alloc_size]; have := HS5.out; omega) (fun q hq => (HO.out.lt q hq).1)
  have ho6 := OwnX.at HOWN.out (grown_at hgrow6 HS5.out.2.1 (by simp only [Value.ownBlock]; intro e; injection e with e; have := HS5.out; have := HSZ.out; omega))
  obtain ⟨g6, c6, rfl⟩ := ownsRow_succ hown6
  have HST : Hid (SyS n f P Q w.heap.size w 0 (.slice (some ⟨g6, 0, none⟩) (0 + 1) c6) (.slice (some ⟨g2, 0, none⟩) n c3) w6) := Lib.hid ⟨_, g2, c3, rfl, hc2, ho6, hsh, hb6⟩
  clear hsh hb6 ho6 hown6 hgrow6 hat6 k1 k2 k3 k4 k5 HO HOWN HMD5 HB5
  go_wp2_with fail
  go_loopw [5, 6, 7, 8, 9] (fun v0 vn i _ _ wr => ∃ (k : Nat) (vo : Value), k ≤ m ∧ i = .int .i64 k ∧ vo = v0 ∧ Hid (SyS n f P Q w.heap.size w k vo vn wr)) (fun _ _ i _ _ _ => m - (intOf i).toNat)
  case atStart => exact ⟨0, _, Nat.zero_le _, rfl, rfl, HST⟩
  case round =>
    clear HST HS5 HR HSZ
    obtain ⟨k, vo, hk, rfl, rfl, hS⟩ := hrel
    obtain ⟨rs, g, c9, rfl, hc9, hown, hsh, hbel⟩ := hS.out
    by_cases hlt : k < m
    · have hki : (k : Int) < (m : Int) := by omega
      have hk0 : (0 : Int) ≤ (k : Int) := by omega
      obtain ⟨q, o, rfl, hql, hrow⟩ := HP.out.row (by omega)
      obtain ⟨hc0, hc1⟩ := (hrow.below hbel hql) k hlt
      have HNS := Lib.hid (now_ship (P := P) (Q := Q) HSH.out k)
      have HI : Hid (Ints wr (some ⟨g, 0, none⟩) n (nowF n f P Q k)) := Lib.hid ⟨⟨by omega, fun i hi => by have := ship_pk HNS.out hi; unfold I64; omega⟩, .inr ⟨g, 0, rfl, (World.ownsRow.lt hown g rfl).2, by
        obtain ⟨g', c', e, _, _, _, _, h5, _⟩ := hown.shape (by rw [rowL_len]; exact hn1)
        rw [rowL_len] at e
        cases e
        exact row_of_list h5⟩⟩
      have HOWN := Lib.hid hown; have HSH2 := Lib.hid hsh; have HB := Lib.hid hbel
      clear hown hsh hbel hrow hS
      go_wp2_with fail
      refine (specChangedOf_any (some ⟨g, 0, none⟩) n c9 (nowF n f P Q k) (P k) (Q k) _ HI.out).mono ?_
      rintro e w7 ⟨v, rfl, hown7, hb7⟩
      cases hg : goB n f P Q k with
      | false =>
        have hch := chL_keep HNS.out hg
        rw [hch.2]
        have HST : Hid (SyS n f P Q w.heap.size w (k + 1) vo (.slice (some ⟨g, 0, none⟩) n c9) w7) := Lib.hid
          ⟨rs, g, c9, rfl, hc9, by rw [now_no hg]; exact HOWN.out.kept hb7, by rw [st_no hg]; exact HSH2.out.kept hb7, below_onto HB.out hb7⟩
        clear hch hown7 hb7 hg hc0 hc1
        go_wp2_with fail
        refine ⟨⟨_, _, _, _, _, _, _, _, _, _, _, _, _, _, _, _, _, _, _, _, _, _, _, _, _, _, ?rel, rfl⟩, ?measure⟩
        case rel => exact ⟨k + 1, vo, by omega, by go_num, by first | rfl | trivial, HST⟩
        case measure => simp [intOf]; omega
      | true =>
        have hch := chL_done HNS.out hg
        rw [hch.2]
        rw [hch.1] at hown7
        obtain ⟨g7, c7, hv7, hBg7, hgl7, hc7, _, _⟩ := hown7.rw (by rw [rowL_len]; exact hn1)
        rw [rowL_len] at hv7 hc7
        subst hv7
        have HSH7 := Lib.hid (HSH2.out.kept hb7)
        have HLT := Lib.hid (show (∀ r ∈ rs, r.1 < wr.heap.size) ∧ (∀ q, vo.ownBlock = some q → q < wr.heap.size) ∧ wr.heap.size ≤ g7 ∧ g7 < w7.heap.size ∧ w.heap.size ≤ wr.heap.size ∧ n ≤ c7 from ⟨fun r hr => (HSH2.out.lt r hr).2, fun q hq => (World.ownsRow.lt HSH2.out.own q hq).2, hBg7, hgl7, HB.out.size, hc7⟩)
        have HOW7 := Lib.hid (hown7.base (B' := w.heap.size) HB.out.size)
        have HB7 := Lib.hid (below_onto HB.out hb7)
        have HST1 := Lib.hid (st_yes hg)
        have HNW := Lib.hid (now_yes hg)
        have hsl : (stL n f P Q k).length ≤ 30 := by rw [st_len]; have := dn_len n f P Q k; omega
        obtain ⟨SL, hSL⟩ : ∃ SL, stL n f P Q k = SL := ⟨_, rfl⟩
        rw [hSL] at HSH7 hsl HST1
        clear hch hown7 hb7 hg hc0 hc1 hBg7 hgl7 hc7 HSH2 HB HI HOWN hSL
        have k1 := Lib.hid (fun (j : Nat) (u : Value) (h : [Value.slice (some ⟨g7, 0, none⟩) n c7][j]? = some u) => cell_one_new w7 (.slice (some ⟨g7, 0, none⟩) n c7) 23 j u h)
        have k2 : Hid (∀ u ∈ [Value.slice (some ⟨g7, 0, none⟩) n c7], u.oneCell' = true) := Lib.hid (by intro u hu; simp at hu; subst hu; rfl)
        have k3 : Hid (SL.length + 1 ≤ maxLen) := Lib.hid (by unfold maxLen; omega)
        have k4 : Hid ((SL.length + 1) * 24 ≤ 140737488355328) := Lib.hid (by omega)
        have k5 : Hid (w.heap.size ≤ (w7.alloc (.cells #[.slice (some ⟨g7, 0, none⟩) n c7] 23)).heap.size) := Lib.hid (by rw [alloc_size]; have := HLT.out; omega)
        have HO : Hid ((w7.alloc (.cells #[.slice (some ⟨g7, 0, none⟩) n c7] 23)).ownsRow w.heap.size 23 1 vo SL.length (rs.map (fun r => Value.slice (some ⟨r.1, 0, none⟩) n r.2))) := Lib.hid (HSH7.out.own.alloc _)
        go_wp2_with (at_builtin; refine wpList_append_own_at _ rfl (.tmp 44) (.tmp 46) 45 rfl w.heap.size 23 j0 (.slice none 0 0) 1 24 Try.underlying45 hjj hy0 hy1 hy2 rfl (by decide) _ _ _ rfl HO.out ⟨w7.heap.size, 0, none⟩ 1 1 [.slice (some ⟨g7, 0, none⟩) n c7] rfl rfl k1.out k2.out k3.out k4.out k5.out ?_)
        intro v8 w8 hown8 hgrow8 _ hat8
        have hne : vo.ownBlock ≠ some g7 := fun e => by have := HLT.out.2.1 g7 e; have := HLT.out; omega
        have hsh8 := HSH7.out.snoc HOW7.out HLT.out.2.2.2.2.2 (fun r hr e => by have := HLT.out.1 r hr; have := HLT.out; omega) hne hown8 hgrow8 hat8
        have hb8 : Below w.heap.size w w8 := (HB7.out.alloc HB7.out.size _).grown hgrow8 (by rw [alloc_size]; have := HLT.out; omega) (fun q hq => (HO.out.lt q hq).1)
        have ho8 := OwnX.at HOW7.out (grown_at hgrow8 HLT.out.2.2.2.1 (fun e => hne e.symm))
        obtain ⟨g8, c8, rfl⟩ := ownsRow_succ hown8
        have HST : Hid (SyS n f P Q w.heap.size w (k + 1) (.slice (some ⟨g8, 0, none⟩) (SL.length + 1) c8) (.slice (some ⟨g7, 0, none⟩) n c7) w8) := Lib.hid
          ⟨_, g7, c7, rfl, HLT.out.2.2.2.2.2, by rw [HNW.out]; exact ho8, by rw [HST1.out, HNW.out]; exact hsh8, hb8⟩
        clear hne hsh8 hb8 ho8 hown8 hgrow8 hat8 k1 k2 k3 k4 k5 HO
        go_wp2_with fail
        refine ⟨⟨_, _, _, _, _, _, _, _, _, _, _, _, _, _, _, _, _, _, _, _, _, _, _, _, _, _, ?rel, rfl⟩, ?measure⟩
        case rel => exact ⟨k + 1, _, by omega, by go_num, rfl, HST⟩
        case measure => simp [intOf]; omega
    · have hki : ¬ (k : Int) < (m : Int) := by omega
      have hkn : k = m := by omega
      subst hkn
      have HB := Lib.hid hbel; have HSH2 := Lib.hid hsh
      clear hbel hsh hown hS
      go_wp2_with fail
      go_ret
      exact ⟨_, rs, rfl, HSH2.out, HB.out⟩

theorem specStoryOf_any (a b : Option Addr) (n c m c2 : Nat) (f P Q : Nat → Int) (w : World) (hi : Ints w a n f) (hp : Prs w b m P Q) :
    Calls Try.prog 33 #[.slice a n c, .slice b m c2] w (StoryGives n (syL n f P Q m) w) := by
  cases hs : syB n f m with
  | false => exact specStoryOf_no a b n c m c2 f P Q hp.1.1 hs w hi
  | true =>
    obtain ⟨g, o, rfl, hlt, hr⟩ := hi.row (shipB_iff.1 (Bool.and_eq_true_iff.1 hs).1).1
    exact specStoryOf_in g o n c m c2 b f P Q hs w hi hr hlt hp
end Go.Proofs.Ytibjdmmcnhlgnaa
