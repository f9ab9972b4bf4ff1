import Derived.Test.YthaickihoagnmaaGreatDoorDkThree
namespace Go.Proofs.YthaickihoagnmaaGreatDoor
set_option linter.unusedVariables false
set_option linter.unusedSimpArgs false
open Go.RowKit Go.Maps

theorem done_ok (n : Nat) (f : Nat → Int) (F : Nat → Bool) (h64 : ∀ i, i < n → I64 (f i)) : (doneL n f F).length ≤ 8 ∧ I64s (doneL n f F) := by
  unfold doneL
  cases hr : roomB n f F with
  | false => exact ⟨by simp, fun y hy => by simp at hy⟩
  | true =>
    unfold roomB at hr
    rw [Bool.and_eq_true, decide_eq_true_eq] at hr
    refine ⟨by rw [if_pos rfl]; omega, fun y hy => ?_⟩
    rw [if_pos rfl] at hy
    unfold withL at hy
    rcases List.mem_append.1 hy with hy | hy
    · obtain ⟨i, hi, rfl⟩ := List.mem_map.1 hy
      exact h64 i (List.mem_range.1 hi)
    · obtain ⟨t, ht, _, rfl⟩ := fam_mem.1 hy
      unfold I64; omega
theorem md_ok {xs : List Int} {k x : Int} (hf : famL xs = true) (hx : I64 x) : (mdL xs k x).length ≤ 8 ∧ I64s (mdL xs k x) := by
  have hl := famL_len hf
  have h64 := famL_I64 hf
  have hi : ∀ i, i < xs.length → I64 (xs.getD i 0) := fun i hi => h64 _ (getD_mem hi)
  unfold mdL
  split
  · exact ⟨by rw [List.length_append, List.length_singleton]; omega, fun y hy => by
      rcases List.mem_append.1 hy with hy | hy
      · exact h64 y hy
      · rw [List.mem_singleton] at hy; rw [hy]; exact hx⟩
  split
  · exact ⟨Nat.le_trans (List.length_filter_le _ _) (by omega), fun y hy => h64 y (List.mem_filter.1 hy).1⟩
  split
  · exact done_ok _ _ _ hi
  split
  · exact done_ok _ _ _ hi
  · exact ⟨by simp, fun y hy => by simp at hy⟩
theorem ints_own {w : World} {B c : Nat} {g : Option Addr} {ys : List Int} (h : OwnX w B 3 (.slice g ys.length c) ys) (hl : ys.length ≤ 9223372036854775807) (h64 : I64s ys) : Ints w g ys.length (fun j => ys.getD j 0) := by
  obtain ⟨a, c', e, _, hi⟩ := h.intsR hl h64
  injection e with e1 e2 e3
  rw [e1]; exact hi
theorem GivesD.one {xs : List Int} {L : List (List Int)} {w w' : World} {v1 v2 : Value} (h : GivesD xs L w w' v1 v2) : ∃ a c, v1 = .slice a xs.length c := by
  obtain ⟨rs, hg, _, _⟩ := h
  exact hg.now.slice
theorem GivesD.two {xs : List Int} {L : List (List Int)} {w w' : World} {v1 v2 : Value} (h : GivesD xs L w w' v1 v2) : ∃ a c, v2 = .slice a L.length c := by
  obtain ⟨rs, hg, rfl, _⟩ := h
  have := hg.past.seq.slice
  rw [List.length_map] at this ⊢
  exact this
theorem GivesD.below {xs : List Int} {L : List (List Int)} {w w' : World} {v1 v2 : Value} (h : GivesD xs L w w' v1 v2) : Below w.heap.size w w' := by
  obtain ⟨rs, _, _, hb⟩ := h
  exact hb

theorem len_of {rs : List Fr} {L : List (List Int)} {n : Nat} (h : rs.map Fr.xs = L) (hn : L.length = n) : rs.length = n := by rw [← hn, ← h, List.length_map]

set_option maxRecDepth 100000 in
set_option maxHeartbeats 6400000 in
theorem changed_any (d : Value) (xs : List Int) (L : List (List Int)) (k x : Int) (hd : deskB xs L = true) (hk : 0 ≤ k ∧ k ≤ 3) (hok : dOk k x = true) (hx : I64 x) (w : World) (h : DeskR w d xs L) :
    Calls Tryz.prog 116 #[d, .agg #[.int .i64 k, .int .i64 x]] w (DoneD (chB xs k x) (if chB xs k x then mdL xs k x else xs) (if chB xs k x then (L ++ [xs]).drop (L.length - 7) else L) w) := by
  have hdd := h
  obtain ⟨a, c, b, c2, rfl, hi, hn⟩ := h.parts
  obtain ⟨hf, h8, hL⟩ := deskB_iff.1 hd
  obtain ⟨n, hnn⟩ : ∃ n, L.length = n := ⟨_, rfl⟩
  have q1 := alloc_below w (.cells #[.slice a xs.length c, .slice b L.length c2] 31)
  have q2 := alloc_below (w.alloc (.cells #[.slice a xs.length c, .slice b L.length c2] 31)) (.cells #[.int .i64 k, .int .i64 x] 39)
  have q3 := alloc_below ((w.alloc (.cells #[.slice a xs.length c, .slice b L.length c2] 31)).alloc (.cells #[.int .i64 k, .int .i64 x] 39)) (.cells #[.slice none 0 0, .slice none 0 0] 31)
  have b1' := (Blk2.new w 31 (.slice a xs.length c) (.slice b L.length c2)).kept q2 (by rw [alloc_size]; omega)
  have b1 := b1'.kept q3 b1'.lt
  have b2' := (Blk2.new (w.alloc (.cells #[.slice a xs.length c, .slice b L.length c2] 31)) 39 (.int .i64 k) (.int .i64 x))
  have b2 := b2'.kept q3 b2'.lt
  have b3 := Blk2.new ((w.alloc (.cells #[.slice a xs.length c, .slice b L.length c2] 31)).alloc (.cells #[.int .i64 k, .int .i64 x] 39)) 31 (.slice none 0 0) (.slice none 0 0)
  have hz : (((w.alloc (.cells #[.slice a xs.length c, .slice b L.length c2] 31)).alloc (.cells #[.int .i64 k, .int .i64 x] 39)).alloc (.cells #[.slice none 0 0, .slice none 0 0] 31)).heap.size = w.heap.size + 3 := by rw [alloc_size, alloc_size, alloc_size]
  rw [alloc_size] at b2
  rw [alloc_size, alloc_size] at b3
  have hq := below_onto q1 (below_onto q2 q3)
  rw [hnn] at b1 b2 b3 hz hq h8 ⊢
  have hdr := hdd.kept (w' := ((w.alloc (.cells #[.slice a xs.length c, .slice b n c2] 31)).alloc (.cells #[.int .i64 k, .int .i64 x] 39)).alloc (.cells #[.slice none 0 0, .slice none 0 0] 31)) hq
  rw [hnn] at hdr
  have hi3 := hi.below hq (Nat.le_refl _)
  have hn3 := hn.kept hq
  obtain ⟨w3, hw3⟩ : ∃ w3, ((w.alloc (.cells #[.slice a xs.length c, .slice b n c2] 31)).alloc (.cells #[.int .i64 k, .int .i64 x] 39)).alloc (.cells #[.slice none 0 0, .slice none 0 0] 31) = w3 := ⟨_, rfl⟩
  rw [hw3] at b1 b2 b3 hz hq hdr hi3 hn3
  have HB1 := Lib.hid b1; have HB2 := Lib.hid b2; have HB3 := Lib.hid b3; have HZ := Lib.hid hz; have HQ := Lib.hid hq; have HDR := Lib.hid hdr
  have HI := Lib.hid hi3; have HN := Lib.hid hn3; have HF := Lib.hid hf; have HL := Lib.hid hL; have HD := Lib.hid hd; have HX := Lib.hid hx; have HKK := Lib.hid hk; have HNN := Lib.hid hnn
  have HKS := Lib.hid (show ∀ W, Below w3.heap.size w3 W → (W.cell? ⟨w.heap.size, 0, none⟩ = some (.slice a xs.length c) ∧ W.cell? ⟨w.heap.size, 1, none⟩ = some (.slice b n c2)) from fun W hW => (b1.kept hW b1.lt).cell)
  have HKR := Lib.hid (show ∀ W, Below w3.heap.size w3 W → Blk2 W (w.heap.size + 1 + 1) 31 (.slice none 0 0) (.slice none 0 0) from fun W hW => b3.kept hW b3.lt)
  have hd0 := b1.cell.1; have hd1 := b1.cell.2; have he0 := b2.cell.1; have he1 := b2.cell.2
  obtain ⟨ys, hys⟩ : ∃ ys, mdL xs k x = ys := ⟨_, rfl⟩
  have HYS := Lib.hid hys
  have hmd := md_ok (k := k) hf hx
  rw [hys] at hmd
  have HMD := Lib.hid hmd
  have HSAME := Lib.hid (fun (q1 : famL ys = true) (q2 : ys.length = xs.length) => show ys = xs by rw [← hys]; exact md_same hk (by rw [hys]; exact q1) (by rw [hys]; exact q2))
  have HCH := Lib.hid (show chB xs k x = (famL ys && decide (ys.length ≠ xs.length)) by unfold chB; rw [hok, hys, Bool.true_and])
  rw [hys]
  clear hmd hdd hi hn q1 q2 q3 b1' b2' hd hf hL b1 b2 b3 hz hq hdr hi3 hn3 hx hnn hys hok hk
  cases hfy : famL ys with
  | false =>
    have HFY := Lib.hid hfy
    have hcb : chB xs k x = false := by rw [HCH.out, hfy, Bool.false_and]
    have e1 : ∀ A : List Int, (if chB xs k x = true then A else xs) = xs := fun A => by rw [hcb]; rfl
    have e2 : ∀ A : List (List Int), (if chB xs k x = true then A else L) = L := fun A => by rw [hcb]; rfl
    rw [e1, e2, hcb]
    clear hfy hcb e1 e2
    go_enter Tryz.func116, Tryz.ntmps116
    go_wp2_with fail
    refine (familyAfter_any _ xs L k x HF.out HKK.out HX.out _ HDR.out).mono ?_
    rintro e w4 ⟨v, rfl, hown, hb4⟩
    rw [HYS.out] at hown
    obtain ⟨g, cg, rfl⟩ := hown.slice
    have HB4 := Lib.hid hb4
    have HI4 := Lib.hid (HI.out.below hb4 (Nat.le_refl _))
    obtain ⟨hf0, hf1⟩ := HKS.out _ hb4
    have HY4 := Lib.hid (ints_own hown (by have := HMD.out.1; omega) HMD.out.2)
    rw [HZ.out] at hown
    have HO4 := Lib.hid hown
    clear hown hb4 hd0 hd1 he0 he1
    go_wp2_with fail
    refine (FamilyOk_val g ys.length cg (fun j => ys.getD j 0) false _ HFY.out HY4.out).mono ?_
    rintro e w5 ⟨rfl, hb5⟩
    have HB5 := Lib.hid (below_onto HB4.out hb5)
    have HO5 := Lib.hid (HO4.out.kept hb5)
    have HY5 := Lib.hid (HY4.out.below hb5 (Nat.le_refl _))
    obtain ⟨hf2, hf3⟩ := HKS.out _ HB5.out
    clear hb5 hf0 hf1
    go_wp2_with fail
    have HBX := HB5
    refine (copied_any _ xs L HD.out _ (HDR.out.kept HBX.out)).mono ?_
    rintro e w6 ⟨v1, v2, rfl, hg6⟩
    obtain ⟨p1, e1, rfl⟩ := hg6.one
    obtain ⟨p2, e2, rfl⟩ := hg6.two
    have HB6 := Lib.hid (below_onto HBX.out hg6.below)
    have hR := HKR.out _ HB6.out
    have HG := Lib.hid (changed_no (R := w.heap.size + 1 + 1) rfl (below_onto HQ.out HBX.out) (by have := HZ.out; have := HBX.out.size; omega) hg6)
    rw [HNN.out] at HG
    rw [HNN.out]
    have hx0 := hR.cell.1; have hx1 := hR.cell.2; have hx2 := hR.frozen 0; have hx3 := hR.frozen 1
    have HR := Lib.hid hR
    clear hg6 hR
    go_wp2_with fail
    refine bodyPost_ret (results_desk rfl _ _ (w.heap.size + 1 + 1) ((HR.out.set0 (.slice p1 xs.length e1)).set1 (.slice p2 n e2)) rfl rfl (by kernel_rfl)) rfl ?_
    exact ⟨_, _, rfl, HG.out⟩
  | true =>
    by_cases hlen : ys.length = xs.length
    · have HFY := Lib.hid hfy
      have hcb : chB xs k x = false := by rw [HCH.out, hfy, decide_eq_false (fun h => h hlen), Bool.and_false]
      have e1 : ∀ A : List Int, (if chB xs k x = true then A else xs) = xs := fun A => by rw [hcb]; rfl
      have e2 : ∀ A : List (List Int), (if chB xs k x = true then A else L) = L := fun A => by rw [hcb]; rfl
      rw [e1, e2, hcb]
      have he := HSAME.out hfy hlen
      clear hfy hcb e1 e2 hlen
      subst he
      have HL1 := Lib.hid (show 1 ≤ ys.length ∧ ys.length ≤ 1000 from by have := famL_len HF.out; omega)
      go_enter Tryz.func116, Tryz.ntmps116
      go_wp2_with fail
      refine (familyAfter_any _ ys L k x HF.out HKK.out HX.out _ HDR.out).mono ?_
      rintro e w4 ⟨v, rfl, hown, hb4⟩
      rw [HYS.out] at hown
      obtain ⟨g, cg, rfl⟩ := hown.slice
      have HB4 := Lib.hid hb4
      have HI4 := Lib.hid (HI.out.below hb4 (Nat.le_refl _))
      obtain ⟨hf0, hf1⟩ := HKS.out _ hb4
      have HY4 := Lib.hid (ints_own hown (by have := HMD.out.1; omega) HMD.out.2)
      rw [HZ.out] at hown
      have HO4 := Lib.hid hown
      clear hown hb4 hd0 hd1 he0 he1
      go_wp2_with fail
      refine (FamilyOk_val g ys.length cg (fun j => ys.getD j 0) true _ HFY.out HY4.out).mono ?_
      rintro e w5 ⟨rfl, hb5⟩
      have HB5 := Lib.hid (below_onto HB4.out hb5)
      have HO5 := Lib.hid (HO4.out.kept hb5)
      have HY5 := Lib.hid (HY4.out.below hb5 (Nat.le_refl _))
      obtain ⟨hf2, hf3⟩ := HKS.out _ HB5.out
      clear hb5 hf0 hf1
      go_wp2_with fail
      refine (equal_same g a ys cg c HL1.out.1 HL1.out.2 _ HY5.out (HI.out.below HB5.out (Nat.le_refl _))).mono ?_
      rintro e w6 ⟨rfl, hd6⟩
      have HBX := Lib.hid (below_onto HB5.out hd6.below)
      obtain ⟨hf4, hf5⟩ := HKS.out _ HBX.out
      clear hd6 hf2 hf3
      go_wp2_with fail
      refine (copied_any _ ys L HD.out _ (HDR.out.kept HBX.out)).mono ?_
      rintro e w6 ⟨v1, v2, rfl, hg6⟩
      obtain ⟨p1, e1, rfl⟩ := hg6.one
      obtain ⟨p2, e2, rfl⟩ := hg6.two
      have HB6 := Lib.hid (below_onto HBX.out hg6.below)
      have hR := HKR.out _ HB6.out
      have HG := Lib.hid (changed_no (R := w.heap.size + 1 + 1) rfl (below_onto HQ.out HBX.out) (by have := HZ.out; have := HBX.out.size; omega) hg6)
      rw [HNN.out] at HG
      rw [HNN.out]
      have hx0 := hR.cell.1; have hx1 := hR.cell.2; have hx2 := hR.frozen 0; have hx3 := hR.frozen 1
      have HR := Lib.hid hR
      clear hg6 hR
      go_wp2_with fail
      refine bodyPost_ret (results_desk rfl _ _ (w.heap.size + 1 + 1) ((HR.out.set0 (.slice p1 ys.length e1)).set1 (.slice p2 n e2)) rfl rfl (by kernel_rfl)) rfl ?_
      exact ⟨_, _, rfl, HG.out⟩
    · have HFY := Lib.hid hfy
      have hcb : chB xs k x = true := by rw [HCH.out, hfy, decide_eq_true hlen]; rfl
      have e1 : ∀ A : List Int, (if chB xs k x = true then A else xs) = A := fun A => by rw [hcb]; rfl
      have e2 : ∀ A : List (List Int), (if chB xs k x = true then A else L) = A := fun A => by rw [hcb]; rfl
      rw [e1, e2, hcb]
      have HLEN := Lib.hid hlen
      clear hfy hcb e1 e2 hlen
      go_enter Tryz.func116, Tryz.ntmps116
      go_wp2_with fail
      refine (familyAfter_any _ xs L k x HF.out HKK.out HX.out _ HDR.out).mono ?_
      rintro e w4 ⟨v, rfl, hown, hb4⟩
      rw [HYS.out] at hown
      obtain ⟨g, cg, rfl⟩ := hown.slice
      have HB4 := Lib.hid hb4
      have HI4 := Lib.hid (HI.out.below hb4 (Nat.le_refl _))
      obtain ⟨hf0, hf1⟩ := HKS.out _ hb4
      have HY4 := Lib.hid (ints_own hown (by have := HMD.out.1; omega) HMD.out.2)
      rw [HZ.out] at hown
      have HO4 := Lib.hid hown
      clear hown hb4 hd0 hd1 he0 he1
      go_wp2_with fail
      refine (FamilyOk_val g ys.length cg (fun j => ys.getD j 0) true _ HFY.out HY4.out).mono ?_
      rintro e w5 ⟨rfl, hb5⟩
      have HB5 := Lib.hid (below_onto HB4.out hb5)
      have HO5 := Lib.hid (HO4.out.kept hb5)
      have HY5 := Lib.hid (HY4.out.below hb5 (Nat.le_refl _))
      obtain ⟨hf2, hf3⟩ := HKS.out _ HB5.out
      clear hb5 hf0 hf1
      go_wp2_with fail
      refine (equal_len g a ys.length xs.length cg c HLEN.out _).mono ?_
      rintro e w6 ⟨rfl, hd6⟩
      have HBX := Lib.hid (below_onto HB5.out hd6.below)
      have HO6 := Lib.hid (HO5.out.kept hd6.below)
      obtain ⟨hf4, hf5⟩ := HKS.out _ HBX.out
      have HS6 := Lib.hid (show w.heap.size + 3 ≤ w6.heap.size by have := HZ.out; have := HBX.out.size; omega)
      have HI6 := Lib.hid (HI.out.below HBX.out (Nat.le_refl _))
      have HN6 := Lib.hid (HN.out.kept HBX.out)
      have HKT := Lib.hid (show ∀ W, Below w6.heap.size w6 W → (W.cell? ⟨w.heap.size, 0, none⟩ = some (.slice a xs.length c) ∧ W.cell? ⟨w.heap.size, 1, none⟩ = some (.slice b n c2)) from fun W hW => HKS.out W (below_onto HBX.out hW))
      have HKU := Lib.hid (fun W hW => HKR.out W (below_onto HBX.out hW) : ∀ W, Below w6.heap.size w6 W → Blk2 W (w.heap.size + 1 + 1) 31 (.slice none 0 0) (.slice none 0 0))
      have HB7 := Lib.hid (Below.refl w6.heap.size w6)
      have HCP := Lib.hid (show ∀ W, Below w6.heap.size w6 W → Calls Tryz.prog 111 #[.slice b n c2] W (GivesF L W) from fun W hW => by
        have := copies_any b L c2 (by rw [HNN.out]; omega) HL.out W (HN6.out.kept hW)
        rw [HNN.out] at this; exact this)
      clear hd6 hf2 hf3
      go_wp2_with fail
      clear hf4 hf5
      go_region_held3 (fun W => W.cell? ⟨w.heap.size, 0, none⟩ = some (.slice a xs.length c) ∧ W.cell? ⟨w.heap.size, 1, none⟩ = some (.slice b n c2)) (first | exact HKT.out _ HB7.out | exact HKT.out _ HB7.out.drew | exact HKT.out _ (below_drewN HB7.out _) | exact HKT.out _ (HB7.out.alloc HB7.out.size _) | go_keep)
        (first | (go_at_call 110; refine (cloneFr_any a c xs HF.out _ (HI6.out.below ?_ (Nat.le_refl _))).mono ?_; (first | exact HB7.out | exact HB7.out.drew | exact below_drewN HB7.out _); rintro e w7 ⟨g7, c7, rfl, hg1, hg2, hown, hb7⟩; (try have HRD := Lib.hid (rdyA HFO.out rfl HFB.out.size hown hb7)); have HC := Lib.hid hown; have HCB := Lib.hid hb7; have HZZ := Lib.hid (show Below w6.heap.size w6 w7 from (by first | exact below_onto HB7.out hb7 | exact below_onto HB7.out.drew hb7 | exact below_onto (below_drewN HB7.out _) hb7)); clear HB7; have HB7 := HZZ; clear HZZ hg1 hg2 hown hb7) | (go_at_call 111; refine (HCP.out _ ?_).mono ?_; (first | exact HB7.out | exact HB7.out.drew | exact below_drewN HB7.out _); rintro e w8 ⟨p2, e2, rs, rfl, hfo, hrs, hb8⟩; rw [HNN.out] at hfo ⊢; have HRN := Lib.hid (len_of hrs HNN.out); (try have HRD := Lib.hid (rdyB HC.out rfl HCB.out.size hfo hb8)); have HR := Lib.hid hrs; have HFO := Lib.hid hfo; have HFB := Lib.hid hb8; have HZZ := Lib.hid (show Below w6.heap.size w6 w8 from (by first | exact below_onto HB7.out hb8 | exact below_onto HB7.out.drew hb8 | exact below_onto (below_drewN HB7.out _) hb8)); clear HB7; have HB7 := HZZ; clear HZZ hfo hrs hb8) | ((refine step_frn (by rfl) (.tmp 24) (.tmp 28) (by rfl) w6.heap.size n (.slice p2 n e2) rs ⟨g7, c7, xs⟩ _ (by rfl) (by rfl) HRD.out.own HRN.out (by omega) HRD.out.row HRD.out.ne1 HRD.out.ne2 HRD.out.size ?_; intro g9 c9 w9 ho9 hb9; have HO9 := Lib.hid ho9; have HZZ := Lib.hid (HB7.out.trans hb9); clear HB7; have HB7 := HZZ; clear HZZ ho9 hb9)))
      all_goals
        obtain ⟨hcp1, hcp2, hcp3⟩ := HO9.out.cap (by omega)
        have hR := HKU.out _ HB7.out
        have hx0 := hR.cell.1; have hx1 := hR.cell.2; have hx2 := hR.frozen 0; have hx3 := hR.frozen 1
        have HR9 := Lib.hid hR
        have HB9 := Lib.hid (below_onto HQ.out (below_onto HBX.out HB7.out))
        clear hR hcp1 HRD HC HCB HFO HFB
        by_cases hn8 : n = 8
        · have hsl := fun W => run_from1 g9 n c9 hcp2 (by omega) W
          have heq : (n : Int) + 1 - 8 = 1 := by omega
          have hmx : max (0 : Int) 1 = 1 := by decide
          have HG : Hid (GivesD ys ((L ++ [xs]).drop (n - 7)) w ((w9.setCell ⟨w.heap.size + 1 + 1, 0, none⟩ (.slice g ys.length cg)).setCell ⟨w.heap.size + 1 + 1, 1, none⟩ (.slice (some ⟨g9, 1, none⟩) n (c9 - 1))) (.slice g ys.length cg) (.slice (some ⟨g9, 1, none⟩) n (c9 - 1))) := Lib.hid (by
            have h9 := HO9.out
            have hr := HR.out
            have hl := HRN.out
            cases rs with
            | nil => exact absurd hl (by rw [hn8]; simp)
            | cons r rs' =>
              have ht := h9.tail
              have hd : (L ++ [xs]).drop (n - 7) = (rs' ++ [Fr.mk g7 c7 xs]).map Fr.xs := by
                rw [← hr, hn8]; simp
              rw [hd]
              exact changed_yes rfl HB9.out HS6.out HO6.out HB7.out ht rfl)
          clear hn8
          go_wp2_with fail
          refine bodyPost_ret (results_desk rfl _ _ (w.heap.size + 1 + 1) ((HR9.out.set0 (.slice g ys.length cg)).set1 (.slice (some ⟨g9, 1, none⟩) n (c9 - 1))) rfl rfl (by kernel_rfl)) rfl ?_
          exact ⟨_, _, rfl, HG.out⟩
        · have hsl := fun W => run_from0 g9 (n + 1) c9 hcp2 (by omega) W
          have hmx : max (0 : Int) ((n : Int) + 1 - 8) = 0 := by omega
          have HG : Hid (GivesD ys ((L ++ [xs]).drop (n - 7)) w ((w9.setCell ⟨w.heap.size + 1 + 1, 0, none⟩ (.slice g ys.length cg)).setCell ⟨w.heap.size + 1 + 1, 1, none⟩ (.slice (some ⟨g9, 0, none⟩) (n + 1) c9)) (.slice g ys.length cg) (.slice (some ⟨g9, 0, none⟩) (n + 1) c9)) := Lib.hid (by
            have h9 := HO9.out
            have hr := HR.out
            have hd : (L ++ [xs]).drop (n - 7) = (rs ++ [Fr.mk g7 c7 xs]).map Fr.xs := by
              rw [← hr, show n - 7 = 0 by omega]; simp
            rw [hd]
            exact changed_yes rfl HB9.out HS6.out HO6.out HB7.out h9.fams rfl)
          by_cases hn7 : n = 7
          · have hgt : ¬ ((0 : Int) < (n : Int) + 1 - 8) := by omega
            have hgt2 : ¬ ((n : Int) + 1 - 8 < 0) := by omega
            have heq : (n : Int) + 1 - 8 = 0 := by omega
            clear hn7 hn8 hmx
            go_wp2_with fail
            refine bodyPost_ret (results_desk rfl _ _ (w.heap.size + 1 + 1) ((HR9.out.set0 (.slice g ys.length cg)).set1 (.slice (some ⟨g9, 0, none⟩) (n + 1) c9)) rfl rfl (by kernel_rfl)) rfl ?_
            exact ⟨_, _, rfl, HG.out⟩
          · clear hn7 hn8
            go_wp2_with fail
            refine bodyPost_ret (results_desk rfl _ _ (w.heap.size + 1 + 1) ((HR9.out.set0 (.slice g ys.length cg)).set1 (.slice (some ⟨g9, 0, none⟩) (n + 1) c9)) rfl rfl (by kernel_rfl)) rfl ?_
            exact ⟨_, _, rfl, HG.out⟩
end Go.Proofs.YthaickihoagnmaaGreatDoor
