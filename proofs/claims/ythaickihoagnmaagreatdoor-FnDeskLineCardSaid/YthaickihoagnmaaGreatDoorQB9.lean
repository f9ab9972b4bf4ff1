import Derived.Test.YthaickihoagnmaaGreatDoorQB8
namespace Go.Proofs.YthaickihoagnmaaGreatDoor
set_option linter.unusedVariables false
set_option linter.unusedSimpArgs false
open Go.RowKit Go.Maps
theorem done_ok (n : Nat) (f : Nat → Int) (F : Nat → Bool) (h64 : ∀ i, i < n → I64 (f i)) : (doneL n f F).length ≤ 8 ∧ I64s (doneL n f F) := by
  unfold doneL
  cases hr : roomB n f F with
  | false => exact ⟨by simp, fun y hy => by simp at hy⟩
  | true =>
    unfold roomB at hr
    rw [Bool.and_eq_true, decide_eq_true_eq] at hr
    refine ⟨by rw [if_pos rfl]; omega, fun y hy => ?_⟩
    rw [if_pos rfl] at hy
    unfold withL at hy
    rcases List.mem_append.1 hy with hy | hy
    · obtain ⟨i, hi, rfl⟩ := List.mem_map.1 hy
      exact h64 i (List.mem_range.1 hi)
    · obtain ⟨t, ht, _, rfl⟩ := fam_mem.1 hy
      unfold I64; omega
theorem md_ok {xs : List Int} {k x : Int} (hf : famL xs = true) (hx : I64 x) : (mdL xs k x).length ≤ 8 ∧ I64s (mdL xs k x) := by
  have hl := famL_len hf
  have h64 := famL_I64 hf
  have hi : ∀ i, i < xs.length → I64 (xs.getD i 0) := fun i hi => h64 _ (getD_mem hi)
  unfold mdL
  split
  · exact ⟨by rw [List.length_append, List.length_singleton]; omega, fun y hy => by
      rcases List.mem_append.1 hy with hy | hy
      · exact h64 y hy
      · rw [List.mem_singleton] at hy; rw [hy]; exact hx⟩
  split
  · exact ⟨Nat.le_trans (List.length_filter_le _ _) (by omega), fun y hy => h64 y (List.mem_filter.1 hy).1⟩
  split
  · exact done_ok _ _ _ hi
  split
  · exact done_ok _ _ _ hi
  · exact ⟨by simp, fun y hy => by simp at hy⟩
theorem ints_own {w : World} {B c : Nat} {g : Option Addr} {ys : List Int} (h : OwnX w B 3 (.slice g ys.length c) ys) (hl : ys.length ≤ 9223372036854775807) (h64 : I64s ys) : Ints w g ys.length (fun j => ys.getD j 0) := by
  obtain ⟨a, c', e, _, hi⟩ := h.intsR hl h64
  injection e with e1 e2 e3
  rw [e1]; exact hi
theorem GivesD.one {xs : List Int} {L : List (List Int)} {w w' : World} {v1 v2 : Value} (h : GivesD xs L w w' v1 v2) : ∃ a c, v1 = .slice a xs.length c := by
  obtain ⟨rs, hg, _, _⟩ := h
  exact hg.now.slice
theorem GivesD.two {xs : List Int} {L : List (List Int)} {w w' : World} {v1 v2 : Value} (h : GivesD xs L w w' v1 v2) : ∃ a c, v2 = .slice a L.length c := by
  obtain ⟨rs, hg, rfl, _⟩ := h
  have := hg.past.seq.slice
  rw [List.length_map] at this ⊢
  exact this
theorem GivesD.below {xs : List Int} {L : List (List Int)} {w w' : World} {v1 v2 : Value} (h : GivesD xs L w w' v1 v2) : Below w.heap.size w w' := by
  obtain ⟨rs, _, _, hb⟩ := h
  exact hb
theorem len_of {rs : List Fr} {L : List (List Int)} {n : Nat} (h : rs.map Fr.xs = L) (hn : L.length = n) : rs.length = n := by rw [← hn, ← h, List.length_map]
set_option maxRecDepth 100000 in
set_option maxHeartbeats 6400000 in
theorem changed_any (d : Value) (xs : List Int) (L : List (List Int)) (k x : Int) (hd : deskB xs L = true) (hk : 0 ≤ k ∧ k ≤ 3) (hok : dOk k x = true) (hx : I64 x) (w : World) (h : DeskR w d xs L) :
    Calls Tryz.prog 116 #[d, .agg #[.int .i64 k, .int .i64 x]] w (DoneD (chB xs k x) (if chB xs k x then mdL xs k x else xs) (if chB xs k x then (L ++ [xs]).drop (L.length - 7) else L) w) := by
  have hdd := h
  obtain ⟨a, c, b, c2, rfl, hi, hn⟩ := h.parts
  obtain ⟨hf, h8, hL⟩ := deskB_iff.1 hd
  obtain ⟨n, hnn⟩ : ∃ n, L.length = n := ⟨_, rfl⟩
  have q1 := alloc_below w (.cells #[.slice a xs.length c, .slice b L.length c2] 31)
  have q2 := alloc_below (w.alloc (.cells #[.slice a xs.length c, .slice b L.length c2] 31)) (.cells #[.int .i64 k, .int .i64 x] 39)
  have q3 := alloc_below ((w.alloc (.cells #[.slice a xs.length c, .slice b L.length c2] 31)).alloc (.cells #[.int .i64 k, .int .i64 x] 39)) (.cells #[.slice none 0 0, .slice none 0 0] 31)
  have b1' := (Blk2.new w 31 (.slice a xs.length c) (.slice b L.length c2)).kept q2 (by rw [alloc_size]; omega)
  have b1 := b1'.kept q3 b1'.lt
  have b2' := (Blk2.new (w.alloc (.cells #[.slice a xs.length c, .slice b L.length c2] 31)) 39 (.int .i64 k) (.int .i64 x))
  have b2 := b2'.kept q3 b2'.lt
  have b3 := Blk2.new ((w.alloc (.cells #[.slice a xs.length c, .slice b L.length c2] 31)).alloc (.cells #[.int .i64 k, .int .i64 x] 39)) 31 (.slice none 0 0) (.slice none 0 0)
  have hz : (((w.alloc (.cells #[.slice a xs.length c, .slice b L.length c2] 31)).alloc (.cells #[.int .i64 k, .int .i64 x] 39)).alloc (.cells #[.slice none 0 0, .slice none 0 0] 31)).heap.size = w.heap.size + 3 := by rw [alloc_size, alloc_size, alloc_size]
  rw [alloc_size] at b2
  rw [alloc_size, alloc_size] at b3
  have hq := below_onto q1 (below_onto q2 q3)
  rw [hnn] at b1 b2 b3 hz hq h8 ⊢
  have hdr := hdd.kept (w' := ((w.alloc (.cells #[.slice a xs.length c, .slice b n c2] 31)).alloc (.cells #[.int .i64 k, .int .i64 x] 39)).alloc (.cells #[.slice none 0 0, .slice none 0 0] 31)) hq
  rw [hnn] at hdr
  have hi3 := hi.below hq (Nat.le_refl _)
  have hn3 := hn.kept hq
  obtain ⟨w3, hw3⟩ : ∃ w3, ((w.alloc (.cells #[.slice a xs.length c, .slice b n c2] 31)).alloc (.cells #[.int .i64 k, .int .i64 x] 39)).alloc (.cells #[.slice none 0 0, .slice none 0 0] 31) = w3 := ⟨_, rfl⟩
  rw [hw3] at b1 b2 b3 hz hq hdr hi3 hn3
  have HB1 := Lib.hid b1; have HB2 := Lib.hid b2; have HB3 := Lib.hid b3; have HZ := Lib.hid hz; have HQ := Lib.hid hq; have HDR := Lib.hid hdr
  have HI := Lib.hid hi3; have HN := Lib.hid hn3; have HF := Lib.hid hf; have HL := Lib.hid hL; have HD := Lib.hid hd; have HX := Lib.hid hx; have HKK := Lib.hid hk; have HNN := Lib.hid hnn
  have HKS := Lib.hid (show ∀ W, Below w3.heap.size w3 W → (W.cell? ⟨w.heap.size, 0, none⟩ = some (.slice a xs.length c) ∧ W.cell? ⟨w.heap.size, 1, none⟩ = some (.slice b n c2)) from fun W hW => (b1.kept hW b1.lt).cell)
  have HKR := Lib.hid (show ∀ W, Below w3.heap.size w3 W → Blk2 W (w.heap.size + 1 + 1) 31 (.slice none 0 0) (.slice none 0 0) from fun W hW => b3.kept hW b3.lt)
  have hd0 := b1.cell.1; have hd1 := b1.cell.2; have he0 := b2.cell.1; have he1 := b2.cell.2
  obtain ⟨ys, hys⟩ : ∃ ys, mdL xs k x = ys := ⟨_, rfl⟩
  have HYS := Lib.hid hys
  have hmd := md_ok (k := k) hf hx
  rw [hys] at hmd
  have HMD := Lib.hid hmd
  have HSAME := Lib.hid (fun (q1 : famL ys = true) (q2 : ys.length = xs.length) => show ys = xs by rw [← hys]; exact md_same hk (by rw [hys]; exact q1) (by rw [hys]; exact q2))
  have HCH := Lib.hid (show chB xs k x = (famL ys && decide (ys.length ≠ xs.length)) by unfold chB; rw [hok, hys, Bool.true_and])
  rw [hys]
  clear hmd hdd hi hn q1 q2 q3 b1' b2' hd hf hL b1 b2 b3 hz hq hdr hi3 hn3 hx hnn hys hok hk
  cases hfy : famL ys with
  | false =>
    have HFY := Lib.hid hfy
    have hcb : chB xs k x = false := by rw [HCH.out, hfy, Bool.false_and]
    have e1 : ∀ A : List Int, (if chB xs k x = true then A else xs) = xs := fun A => by rw [hcb]; rfl
    have e2 : ∀ A : List (List Int), (if chB xs k x = true then A else L) = L := fun A => by rw [hcb]; rfl
    rw [e1, e2, hcb]
    clear hfy hcb e1 e2
    go_enter Tryz.func116, Tryz.ntmps116
    go_wp2_with fail
    refine (familyAfter_any _ xs L k x HF.out HKK.out HX.out _ HDR.out).mono ?_
    rintro e w4 ⟨v, rfl, hown, hb4⟩
    rw [HYS.out] at hown
    obtain ⟨g, cg, rfl⟩ := hown.slice
    have HB4 := Lib.hid hb4
    have HI4 := Lib.hid (HI.out.below hb4 (Nat.le_refl _))
    obtain ⟨hf0, hf1⟩ := HKS.out _ hb4
    have HY4 := Lib.hid (ints_own hown (by have := HMD.out.1; omega) HMD.out.2)
    rw [HZ.out] at hown
    have HO4 := Lib.hid hown
    clear hown hb4 hd0 hd1 he0 he1
    go_wp2_with fail
    refine (FamilyOk_val g ys.length cg (fun j => ys.getD j 0) false _ HFY.out HY4.out).mono ?_
    rintro e w5 ⟨rfl, hb5⟩
    have HB5 := Lib.hid (below_onto HB4.out hb5)
    have HO5 := Lib.hid (HO4.out.kept hb5)
    have HY5 := Lib.hid (HY4.out.below hb5 (Nat.le_refl _))
    obtain ⟨hf2, hf3⟩ := HKS.out _ HB5.out
    clear hb5 hf0 hf1
    go_wp2_with fail
    have HBX := HB5
    refine (copied_any _ xs L HD.out _ (HDR.out.kept HBX.out)).mono ?_
    rintro e w6 ⟨v1, v2, rfl, hg6⟩
    obtain ⟨p1, e1, rfl⟩ := hg6.one
    obtain ⟨p2, e2, rfl⟩ := hg6.two
    have HB6 := Lib.hid (below_onto HBX.out hg6.below)
    have hR := HKR.out _ HB6.out
    have HG := Lib.hid (changed_no (R := w.heap.size + 1 + 1) rfl (below_onto HQ.out HBX.out) (by have := HZ.out; have := HBX.out.size; omega) hg6)
    rw [HNN.out] at HG
    rw [HNN.out]
    have hx0 := hR.cell.1; have hx1 := hR.cell.2; have hx2 := hR.frozen 0; have hx3 := hR.frozen 1
    have HR := Lib.hid hR
    clear hg6 hR
    go_wp2_with fail
    refine bodyPost_ret (results_desk rfl _ _ (w.heap.size + 1 + 1) ((HR.out.set0 (.slice p1 xs.length e1)).set1 (.slice p2 n e2)) rfl rfl (by kernel_rfl)) rfl ?_
    exact ⟨_, _, rfl, HG.out⟩
  | true =>
    by_cases hlen : ys.length = xs.length
    · have HFY := Lib.hid hfy
      have hcb : chB xs k x = false := by rw [HCH.out, hfy, decide_eq_false (fun h => h hlen), Bool.and_false]
      have e1 : ∀ A : List Int, (if chB xs k x = true then A else xs) = xs := fun A => by rw [hcb]; rfl
      have e2 : ∀ A : List (List Int), (if chB xs k x = true then A else L) = L := fun A => by rw [hcb]; rfl
      rw [e1, e2, hcb]
      have he := HSAME.out hfy hlen
      clear hfy hcb e1 e2 hlen
      subst he
      have HL1 := Lib.hid (show 1 ≤ ys.length ∧ ys.length ≤ 1000 from by have := famL_len HF.out; omega)
      go_enter Tryz.func116, Tryz.ntmps116
      go_wp2_with fail
      refine (familyAfter_any _ ys L k x HF.out HKK.out HX.out _ HDR.out).mono ?_
      rintro e w4 ⟨v, rfl, hown, hb4⟩
      rw [HYS.out] at hown
      obtain ⟨g, cg, rfl⟩ := hown.slice
      have HB4 := Lib.hid hb4
      have HI4 := Lib.hid (HI.out.below hb4 (Nat.le_refl _))
      obtain ⟨hf0, hf1⟩ := HKS.out _ hb4
      have HY4 := Lib.hid (ints_own hown (by have := HMD.out.1; omega) HMD.out.2)
      rw [HZ.out] at hown
      have HO4 := Lib.hid hown
      clear hown hb4 hd0 hd1 he0 he1
      go_wp2_with fail
      refine (FamilyOk_val g ys.length cg (fun j => ys.getD j 0) true _ HFY.out HY4.out).mono ?_
      rintro e w5 ⟨rfl, hb5⟩
      have HB5 := Lib.hid (below_onto HB4.out hb5)
      have HO5 := Lib.hid (HO4.out.kept hb5)
      have HY5 := Lib.hid (HY4.out.below hb5 (Nat.le_refl _))
      obtain ⟨hf2, hf3⟩ := HKS.out _ HB5.out
      clear hb5 hf0 hf1
      go_wp2_with fail
      refine (equal_same g a ys cg c HL1.out.1 HL1.out.2 _ HY5.out (HI.out.below HB5.out (Nat.le_refl _))).mono ?_
      rintro e w6 ⟨rfl, hd6⟩
      have HBX := Lib.hid (below_onto HB5.out hd6.below)
      obtain ⟨hf4, hf5⟩ := HKS.out _ HBX.out
      clear hd6 hf2 hf3
      go_wp2_with fail
      refine (copied_any _ ys L HD.out _ (HDR.out.kept HBX.out)).mono ?_
      rintro e w6 ⟨v1, v2, rfl, hg6⟩
      obtain ⟨p1, e1, rfl⟩ := hg6.one
      obtain ⟨p2, e2, rfl⟩ := hg6.two
      have HB6 := Lib.hid (below_onto HBX.out hg6.below)
      have hR := HKR.out _ HB6.out
      have HG := Lib.hid (changed_no (R := w.heap.size + 1 + 1) rfl (below_onto HQ.out HBX.out) (by have := HZ.out; have := HBX.out.size; omega) hg6)
      rw [HNN.out] at HG
      rw [HNN.out]
      have hx0 := hR.cell.1; have hx1 := hR.cell.2; have hx2 := hR.frozen 0; have hx3 := hR.frozen 1
      have HR := Lib.hid hR
      clear hg6 hR
      go_wp2_with fail
      refine bodyPost_ret (results_desk rfl _ _ (w.heap.size + 1 + 1) ((HR.out.set0 (.slice p1 ys.length e1)).set1 (.slice p2 n e2)) rfl rfl (by kernel_rfl)) rfl ?_
      exact ⟨_, _, rfl, HG.out⟩
    · have HFY := Lib.hid hfy
      have hcb : chB xs k x = true := by rw [HCH.out, hfy, decide_eq_true hlen]; rfl
      have e1 : ∀ A : List Int, (if chB xs k x = true then A else xs) = A := fun A => by rw [hcb]; rfl
      have e2 : ∀ A : List (List Int), (if chB xs k x = true then A else L) = A := fun A => by rw [hcb]; rfl
      rw [e1, e2, hcb]
      have HLEN := Lib.hid hlen
      clear hfy hcb e1 e2 hlen
      go_enter Tryz.func116, Tryz.ntmps116
      go_wp2_with fail
      refine (familyAfter_any _ xs L k x HF.out HKK.out HX.out _ HDR.out).mono ?_
      rintro e w4 ⟨v, rfl, hown, hb4⟩
      rw [HYS.out] at hown
      obtain ⟨g, cg, rfl⟩ := hown.slice
      have HB4 := Lib.hid hb4
      have HI4 := Lib.hid (HI.out.below hb4 (Nat.le_refl _))
      obtain ⟨hf0, hf1⟩ := HKS.out _ hb4
      have HY4 := Lib.hid (ints_own hown (by have := HMD.out.1; omega) HMD.out.2)
      rw [HZ.out] at hown
      have HO4 := Lib.hid hown
      clear hown hb4 hd0 hd1 he0 he1
      go_wp2_with fail
      refine (FamilyOk_val g ys.length cg (fun j => ys.getD j 0) true _ HFY.out HY4.out).mono ?_
      rintro e w5 ⟨rfl, hb5⟩
      have HB5 := Lib.hid (below_onto HB4.out hb5)
      have HO5 := Lib.hid (HO4.out.kept hb5)
      have HY5 := Lib.hid (HY4.out.below hb5 (Nat.le_refl _))
      obtain ⟨hf2, hf3⟩ := HKS.out _ HB5.out
      clear hb5 hf0 hf1
      go_wp2_with fail
      refine (equal_len g a ys.length xs.length cg c HLEN.out _).mono ?_
      rintro e w6 ⟨rfl, hd6⟩
      have HBX := Lib.hid (below_onto HB5.out hd6.below)
      have HO6 := Lib.hid (HO5.out.kept hd6.below)
      obtain ⟨hf4, hf5⟩ := HKS.out _ HBX.out
      have HS6 := Lib.hid (show w.heap.size + 3 ≤ w6.heap.size by have := HZ.out; have := HBX.out.size; omega)
      have HI6 := Lib.hid (HI.out.below HBX.out (Nat.le_refl _))
      have HN6 := Lib.hid (HN.out.kept HBX.out)
      have HKT := Lib.hid (show ∀ W, Below w6.heap.size w6 W → (W.cell? ⟨w.heap.size, 0, none⟩ = some (.slice a xs.length c) ∧ W.cell? ⟨w.heap.size, 1, none⟩ = some (.slice b n c2)) from fun W hW => HKS.out W (below_onto HBX.out hW))
      have HKU := Lib.hid (fun W hW => HKR.out W (below_onto HBX.out hW) : ∀ W, Below w6.heap.size w6 W → Blk2 W (w.heap.size + 1 + 1) 31 (.slice none 0 0) (.slice none 0 0))
      have HB7 := Lib.hid (Below.refl w6.heap.size w6)
      have HCP := Lib.hid (show ∀ W, Below w6.heap.size w6 W → Calls Tryz.prog 111 #[.slice b n c2] W (GivesF L W) from fun W hW => by
        have := copies_any b L c2 (by rw [HNN.out]; omega) HL.out W (HN6.out.kept hW)
        rw [HNN.out] at this; exact this)
      clear hd6 hf2 hf3
      go_wp2_with fail
      clear hf4 hf5
      go_region_held3 (fun W => W.cell? ⟨w.heap.size, 0, none⟩ = some (.slice a xs.length c) ∧ W.cell? ⟨w.heap.size, 1, none⟩ = some (.slice b n c2)) (first | exact HKT.out _ HB7.out | exact HKT.out _ HB7.out.drew | exact HKT.out _ (below_drewN HB7.out _) | exact HKT.out _ (HB7.out.alloc HB7.out.size _) | go_keep)
        (first | (go_at_call 110; refine (cloneFr_any a c xs HF.out _ (HI6.out.below ?_ (Nat.le_refl _))).mono ?_; (first | exact HB7.out | exact HB7.out.drew | exact below_drewN HB7.out _); rintro e w7 ⟨g7, c7, rfl, hg1, hg2, hown, hb7⟩; (try have HRD := Lib.hid (rdyA HFO.out rfl HFB.out.size hown hb7)); have HC := Lib.hid hown; have HCB := Lib.hid hb7; have HZZ := Lib.hid (show Below w6.heap.size w6 w7 from (by first | exact below_onto HB7.out hb7 | exact below_onto HB7.out.drew hb7 | exact below_onto (below_drewN HB7.out _) hb7)); clear HB7; have HB7 := HZZ; clear HZZ hg1 hg2 hown hb7) | (go_at_call 111; refine (HCP.out _ ?_).mono ?_; (first | exact HB7.out | exact HB7.out.drew | exact below_drewN HB7.out _); rintro e w8 ⟨p2, e2, rs, rfl, hfo, hrs, hb8⟩; rw [HNN.out] at hfo ⊢; have HRN := Lib.hid (len_of hrs HNN.out); (try have HRD := Lib.hid (rdyB HC.out rfl HCB.out.size hfo hb8)); have HR := Lib.hid hrs; have HFO := Lib.hid hfo; have HFB := Lib.hid hb8; have HZZ := Lib.hid (show Below w6.heap.size w6 w8 from (by first | exact below_onto HB7.out hb8 | exact below_onto HB7.out.drew hb8 | exact below_onto (below_drewN HB7.out _) hb8)); clear HB7; have HB7 := HZZ; clear HZZ hfo hrs hb8) | ((refine step_frn (by rfl) (.tmp 24) (.tmp 28) (by rfl) w6.heap.size n (.slice p2 n e2) rs ⟨g7, c7, xs⟩ _ (by rfl) (by rfl) HRD.out.own HRN.out (by omega) HRD.out.row HRD.out.ne1 HRD.out.ne2 HRD.out.size ?_; intro g9 c9 w9 ho9 hb9; have HO9 := Lib.hid ho9; have HZZ := Lib.hid (HB7.out.trans hb9); clear HB7; have HB7 := HZZ; clear HZZ ho9 hb9)))
      all_goals
        obtain ⟨hcp1, hcp2, hcp3⟩ := HO9.out.cap (by omega)
        have hR := HKU.out _ HB7.out
        have hx0 := hR.cell.1; have hx1 := hR.cell.2; have hx2 := hR.frozen 0; have hx3 := hR.frozen 1
        have HR9 := Lib.hid hR
        have HB9 := Lib.hid (below_onto HQ.out (below_onto HBX.out HB7.out))
        clear hR hcp1 HRD HC HCB HFO HFB
        by_cases hn8 : n = 8
        · have hsl := fun W => run_from1 g9 n c9 hcp2 (by omega) W
          have heq : (n : Int) + 1 - 8 = 1 := by omega
          have hmx : max (0 : Int) 1 = 1 := by decide
          have HG : Hid (GivesD ys ((L ++ [xs]).drop (n - 7)) w ((w9.setCell ⟨w.heap.size + 1 + 1, 0, none⟩ (.slice g ys.length cg)).setCell ⟨w.heap.size + 1 + 1, 1, none⟩ (.slice (some ⟨g9, 1, none⟩) n (c9 - 1))) (.slice g ys.length cg) (.slice (some ⟨g9, 1, none⟩) n (c9 - 1))) := Lib.hid (by
            have h9 := HO9.out
            have hr := HR.out
            have hl := HRN.out
            cases rs with
            | nil => exact absurd hl (by rw [hn8]; simp)
            | cons r rs' =>
              have ht := h9.tail
              have hd : (L ++ [xs]).drop (n - 7) = (rs' ++ [Fr.mk g7 c7 xs]).map Fr.xs := by
                rw [← hr, hn8]; simp
              rw [hd]
              exact changed_yes rfl HB9.out HS6.out HO6.out HB7.out ht rfl)
          clear hn8
          go_wp2_with fail
          refine bodyPost_ret (results_desk rfl _ _ (w.heap.size + 1 + 1) ((HR9.out.set0 (.slice g ys.length cg)).set1 (.slice (some ⟨g9, 1, none⟩) n (c9 - 1))) rfl rfl (by kernel_rfl)) rfl ?_
          exact ⟨_, _, rfl, HG.out⟩
        · have hsl := fun W => run_from0 g9 (n + 1) c9 hcp2 (by omega) W
          have hmx : max (0 : Int) ((n : Int) + 1 - 8) = 0 := by omega
          have HG : Hid (GivesD ys ((L ++ [xs]).drop (n - 7)) w ((w9.setCell ⟨w.heap.size + 1 + 1, 0, none⟩ (.slice g ys.length cg)).setCell ⟨w.heap.size + 1 + 1, 1, none⟩ (.slice (some ⟨g9, 0, none⟩) (n + 1) c9)) (.slice g ys.length cg) (.slice (some ⟨g9, 0, none⟩) (n + 1) c9)) := Lib.hid (by
            have h9 := HO9.out
            have hr := HR.out
            have hd : (L ++ [xs]).drop (n - 7) = (rs ++ [Fr.mk g7 c7 xs]).map Fr.xs := by
              rw [← hr, show n - 7 = 0 by omega]; simp
            rw [hd]
            exact changed_yes rfl HB9.out HS6.out HO6.out HB7.out h9.fams rfl)
          by_cases hn7 : n = 7
          · have hgt : ¬ ((0 : Int) < (n : Int) + 1 - 8) := by omega
            have hgt2 : ¬ ((n : Int) + 1 - 8 < 0) := by omega
            have heq : (n : Int) + 1 - 8 = 0 := by omega
            clear hn7 hn8 hmx
            go_wp2_with fail
            refine bodyPost_ret (results_desk rfl _ _ (w.heap.size + 1 + 1) ((HR9.out.set0 (.slice g ys.length cg)).set1 (.slice (some ⟨g9, 0, none⟩) (n + 1) c9)) rfl rfl (by kernel_rfl)) rfl ?_
            exact ⟨_, _, rfl, HG.out⟩
          · clear hn7 hn8
            go_wp2_with fail
            refine bodyPost_ret (results_desk rfl _ _ (w.heap.size + 1 + 1) ((HR9.out.set0 (.slice g ys.length cg)).set1 (.slice (some ⟨g9, 0, none⟩) (n + 1) c9)) rfl rfl (by kernel_rfl)) rfl ?_
            exact ⟨_, _, rfl, HG.out⟩
end Go.Proofs.YthaickihoagnmaaGreatDoor
namespace Go.Proofs.YthaickihoagnmaaGreatDoor
set_option linter.unusedVariables false
set_option linter.unusedSimpArgs false
open Go.RowKit Go.Maps
theorem step_ap {ops : Array Oper} {o : Oper} {a : Act} {K : Act → World → Prop} {Q : Exit → Act → World → Prop} {E : Prop} (hgd : o.guard = none) (s x : Operand)
    (ho : o.op = .call { callee := .builtin .append, args := #[s, x], argTypes := #[28, 28] })
    (B : Nat) (v : Value) (ys xs zs : List Int) (hzs : ys ++ xs = zs) (h1 : 1 ≤ xs.length) (hl : xs.length ≤ 1000) (hly : ys.length ≤ 1000) (w : World) (g o' c : Nat) (hs : a.eval s = v) (hx : a.eval x = .slice (some ⟨g, o', none⟩) xs.length c) (hr : Row w g o' xs.length (fun j => xs.getD j 0)) (hown : OwnX w B 3 v ys) (hB : B ≤ w.heap.size)
    (hk : ∀ g c w', OwnX w' B 3 (.slice (some ⟨g, 0, none⟩) zs.length c) zs → Below B w w' → Upon (fun q => v.ownBlock = some q) w w' → K (a.put o.dst (.slice (some ⟨g, 0, none⟩) zs.length c)) w') :
    if Region.wanted o (yielded ops a.tmps) = true then Oper.wp Tryz.prog o a w K Q else E := by
  subst hzs
  obtain ⟨i0, hi0, hz0, hz1, hz2⟩ := info_parts Tryz.infoInt
  refine step_append_lies _ hgd s x 28 ho B 3 i0 (.int .i64 0) 1 8 Tryz.underlying28 hi0 hz0 hz1 hz2 rfl (by decide) v ys.length (ys.map (Value.int .i64)) hs hown ⟨g, o', none⟩ xs.length c (rowV (fun j => xs.getD j 0) xs.length) hx (by rw [rowV_len]; omega) (rowV_cells hr) (rowV_one _ _)
    (by omega) (by unfold maxLen; omega) (by omega) hB w.heap.size rfl ?_
  intro g' c' w' hown' hgrow hat hlt
  have e : ys.map (Value.int .i64) ++ rowV (fun j => xs.getD j 0) xs.length = (ys ++ xs).map (Value.int .i64) := by
    unfold rowV; rw [famL_get, List.map_append]
  rw [e, ← List.length_append] at hown'
  have hb : Below B w w' := (Below.refl B w).grown hgrow hB (fun q hq => (World.ownsRow.lt hown q hq).1)
  rw [← List.length_append]
  exact hk g' c' w' hown' hb (Upon.of_grown hgrow)
theorem step_sn {ops : Array Oper} {o : Oper} {a : Act} {K : Act → World → Prop} {Q : Exit → Act → World → Prop} {E : Prop} (hgd : o.guard = none) (s x : Operand)
    (ho : o.op = .call { callee := .builtin .append, args := #[s, x], argTypes := #[28, 28] })
    (B : Nat) (v : Value) (ys zs : List Int) (z : Int) (hzs : ys ++ [z] = zs) (hly : ys.length ≤ 1000) (w : World) (hs : a.eval s = v) (hx : a.eval x = .slice (some ⟨w.heap.size, 0, none⟩) 1 1) (hown : OwnX w B 3 v ys) (hB : B ≤ w.heap.size)
    (hk : ∀ g c w', OwnX w' B 3 (.slice (some ⟨g, 0, none⟩) zs.length c) zs → Below B w w' → K (a.put o.dst (.slice (some ⟨g, 0, none⟩) zs.length c)) w') :
    if Region.wanted o (yielded ops a.tmps) = true then Oper.wp Tryz.prog o a (w.alloc (.cells #[.int .i64 z] 3)) K Q else E := by
  have hal := alloc_below w (.cells #[.int .i64 z] 3)
  refine step_ap hgd s x ho B v ys [z] zs hzs (by simp) (by simp) hly _ w.heap.size 0 1 hs hx (fun i hi => ?_) (hown.kept hal) (by rw [alloc_size]; omega) (fun g c w' q1 q2 _ => hk g c w' q1 ?_)
  · have : i = 0 := by simp at hi; omega
    subst this
    exact cell_one_new w (.int .i64 z) 3 0 _ rfl
  · exact (hal.mono hB).trans q2
def mdS (xs : List Int) (k x : Int) : List Int :=
  if k = 0 then xs ++ [x] else if k = 1 then xs.filter (fun y => y != x) else if k = 2 ∧ x = 0 then doneL xs.length (fun i => xs.getD i 0) (FP (memS xs.length (fun i => xs.getD i 0)))
  else if k = 3 ∧ x = 0 then doneL xs.length (fun i => xs.getD i 0) (FS xs.length (fun i => xs.getD i 0)) else []
theorem ms_md {xs : List Int} {k x : Int} (h : dOk k x = true) : mdS xs k x = mdL xs k x := by
  have hr := dOk_iff.1 h
  unfold mdS mdL
  by_cases h0 : k = 0
  · rw [if_pos h0, if_pos h0]
  rw [if_neg h0, if_neg h0]
  by_cases h1 : k = 1
  · rw [if_pos h1, if_pos h1]
  rw [if_neg h1, if_neg h1]
  have hx : x = 0 := by omega
  by_cases h2 : k = 2
  · rw [if_pos ⟨h2, hx⟩, if_pos h2]
  rw [if_neg (fun h => h2 h.1), if_neg h2]
  by_cases h3 : k = 3
  · rw [if_pos ⟨h3, hx⟩, if_pos h3]
  rw [if_neg (fun h => h3 h.1), if_neg h3]
theorem ms_no {xs : List Int} {k x : Int} (hf : famL xs = true) (h : dOk k x = false) : (famL (mdS xs k x) && decide ((mdS xs k x).length ≠ xs.length)) = false := by
  have hr : ¬ ((0 ≤ k ∧ k ≤ 1 ∧ 1 ≤ x ∧ x ≤ 15) ∨ (2 ≤ k ∧ k ≤ 4 ∧ x = 0)) := fun hh => by rw [dOk_iff.2 hh] at h; cases h
  unfold mdS
  by_cases h0 : k = 0
  · rw [if_pos h0]
    cases hb : famL (xs ++ [x]) with
    | false => rfl
    | true => have := famL_rng hb x (by simp); omega
  rw [if_neg h0]
  by_cases h1 : k = 1
  · rw [if_pos h1]
    have : xs.filter (fun y => y != x) = xs := List.filter_eq_self.2 (fun y hy => by have := famL_rng hf y hy; simp; omega)
    rw [this]; simp
  rw [if_neg h1, if_neg (fun hh => by omega), if_neg (fun hh => by omega), famL_nil, Bool.false_and]
theorem ms_ch {xs : List Int} {k x : Int} (hf : famL xs = true) : (famL (mdS xs k x) && decide ((mdS xs k x).length ≠ xs.length)) = chB xs k x := by
  cases h : dOk k x with
  | true => rw [ms_md h]; unfold chB; rw [h, Bool.true_and]
  | false => rw [ms_no hf h]; unfold chB; rw [h, Bool.false_and]
theorem ms_ok {xs : List Int} {k x : Int} (hf : famL xs = true) (hx : I64 x) : (mdS xs k x).length ≤ 8 ∧ I64s (mdS xs k x) := by
  unfold mdS
  by_cases h0 : k = 0
  · have := md_ok (k := 0) hf hx
    rw [if_pos h0]; exact this
  rw [if_neg h0]
  by_cases h1 : k = 1
  · have := md_ok (k := 1) hf hx
    rw [if_pos h1]; exact this
  rw [if_neg h1]
  split
  · have := md_ok (k := 2) hf hx
    exact this
  split
  · have := md_ok (k := 3) hf hx
    exact this
  · exact ⟨by simp, fun y hy => by simp at hy⟩
def MadeEnd (ys : List Int) (b : Bool) (w : World) (e : Ending) (w' : World) : Prop :=
  ∃ a c, e = .returned (.tuple #[.slice a ys.length c, .bool b]) ∧ OwnX w' w.heap.size 3 (.slice a ys.length c) ys ∧ Below w.heap.size w w'
structure TakeS (xs : List Int) (x : Int) (w w1 : World) (k : Nat) (v : Value) (wr : World) : Prop where
  own : OwnX wr (w.heap.size + 1) 3 v ((xs.take k).filter (fun y => y != x))
  bel : Below (w.heap.size + 1) w1 wr
theorem filt_in {xs : List Int} {x : Int} {k : Nat} (hk : k < xs.length) (h : (xs.getD k 0 != x) = true) : (xs.take (k + 1)).filter (fun y => y != x) = (xs.take k).filter (fun y => y != x) ++ [xs.getD k 0] := by
  rw [take_nextI hk, List.filter_append]
  congr 1
  rw [List.filter_cons, if_pos h]; rfl
theorem filt_out {xs : List Int} {x : Int} {k : Nat} (hk : k < xs.length) (h : (xs.getD k 0 != x) = false) : (xs.take (k + 1)).filter (fun y => y != x) = (xs.take k).filter (fun y => y != x) := by
  rw [take_nextI hk, List.filter_append]
  have : [xs.getD k 0].filter (fun y => y != x) = [] := by rw [List.filter_cons, if_neg (by rw [h]; decide)]; rfl
  rw [this, List.append_nil]
set_option maxRecDepth 100000 in
set_option maxHeartbeats 3200000 in
theorem l12Made_put (a : Option Addr) (c : Nat) (xs : List Int) (x : Int) (hx : I64 x) (hf : famL xs = true) (w : World) (h : Ints w a xs.length (fun j => xs.getD j 0)) :
    Calls Tryz.prog 120 #[.slice a xs.length c, .agg #[.int .i64 0, .int .i64 x]] w (MadeEnd (mdS xs (0) (x)) (chB xs (0) (x)) w) := by
  have hq := alloc_below w (.cells #[.int .i64 (0), .int .i64 (x)] 39)
  have hb2 := Blk2.new w 39 (.int .i64 (0)) (.int .i64 (x))
  have hal := alloc_below (w.alloc (.cells #[.int .i64 (0), .int .i64 (x)] 39)) (.cells #[] 3)
  have hmd : OwnX ((w.alloc (.cells #[.int .i64 (0), .int .i64 (x)] 39)).alloc (.cells #[] 3)) (w.alloc (.cells #[.int .i64 (0), .int .i64 (x)] 39)).heap.size 3 (.slice (some ⟨(w.alloc (.cells #[.int .i64 (0), .int .i64 (x)] 39)).heap.size, 0, none⟩) 0 0) [] := OwnX.made _ _ (Nat.le_refl _) _
  rw [alloc_size] at hmd
  have hb3 := hb2.kept hal hb2.lt
  have hq3 := below_onto hq hal
  have hi3 := h.below hq3 (Nat.le_refl _)
  have hsz : ((w.alloc (.cells #[.int .i64 (0), .int .i64 (x)] 39)).alloc (.cells #[] 3)).heap.size = w.heap.size + 2 := by rw [alloc_size, alloc_size]
  obtain ⟨w1, hw1⟩ : ∃ w1, (w.alloc (.cells #[.int .i64 (0), .int .i64 (x)] 39)).alloc (.cells #[] 3) = w1 := ⟨_, rfl⟩
  rw [hw1] at hmd hb3 hq3 hi3 hsz
  have HB3 := Lib.hid hb3; have HQ3 := Lib.hid hq3; have HI3 := Lib.hid hi3; have HMD := Lib.hid hmd; have HF := Lib.hid hf
  have hlen := famL_len hf
  have HSZ := Lib.hid hsz
  have hc0 := hb3.cell.1; have hc1 := hb3.cell.2
  have HOKS := Lib.hid (ms_ok (k := 0) (x := x) hf hx)
  have HCH := Lib.hid (ms_ch (k := 0) (x := x) hf)
  obtain ⟨cb, hcb⟩ : ∃ cb, chB xs (0) (x) = cb := ⟨_, rfl⟩
  rw [hcb] at HCH ⊢
  obtain ⟨ys, hys⟩ : ∃ ys, mdS xs (0) (x) = ys := ⟨_, rfl⟩
  rw [hys] at HCH HOKS ⊢
  have HYS := Lib.hid hys
  have HOK := HOKS
  have HIH := Lib.hid h
  clear h hq hb2 hal hmd hb3 hq3 hi3 hsz hf hcb hys HOKS
  obtain ⟨q, p, rfl, hql, hrow⟩ := HI3.out.row hlen.1
  have HRW : Hid (Row w1.drew q p xs.length (fun j => xs.getD j 0)) := Lib.hid (hrow.below (Below.refl _ _).drew hql)
  have HM1 : Hid (OwnX w1.drew (w.heap.size + 1) 3 (.slice (some ⟨w.heap.size + 1, 0, none⟩) 0 0) []) := Lib.hid HMD.out
  have HL1 := Lib.hid hlen.1
  have HS1 : Hid (w.heap.size + 1 ≤ w1.drew.heap.size) := Lib.hid (by show _ ≤ w1.heap.size; rw [HSZ.out]; omega)
  have hax : Below w1.heap.size w1 (w1.alloc (.cells #[.int .i64 x] 3)).drew := (alloc_below w1 _).drew
  have HBA := Lib.hid (hax.mono (show w.heap.size + 1 ≤ w1.heap.size by rw [HSZ.out]; omega))
  have HBD : Hid (Below (w.heap.size + 1) w1 w1.drew) := Lib.hid (Below.refl _ _).drew
  have HRW2 := Lib.hid (hrow.below hax hql)
  have HM3 := Lib.hid (HMD.out.kept hax)
  have HS2 := Lib.hid (Nat.le_trans HS1.out hax.size)
  have HX1 : Hid (Row (w1.alloc (.cells #[.int .i64 x] 3)).drew w1.heap.size 0 [x].length (fun j => [x].getD j 0)) := Lib.hid (fun i hi => by
    have : i = 0 := by simp at hi; omega
    subst this
    exact cell_one_new w1 (.int .i64 x) 3 0 _ rfl)
  have HNX : Hid (¬ (Value.slice (some ⟨w.heap.size + 1, 0, none⟩) 0 0).ownBlock = some w1.heap.size) := Lib.hid (fun e => by injection e with e; have e : w.heap.size + 1 = w1.heap.size := e; have := HSZ.out; omega)
  have HXS : Hid (w1.heap.size < (w1.alloc (.cells #[.int .i64 x] 3)).drew.heap.size) := Lib.hid (by show _ < (w1.alloc (.cells #[.int .i64 x] 3)).heap.size; rw [alloc_size]; exact Nat.lt_succ_self _)
  clear hax
  have HNA : Hid ([] ++ xs = xs) := Lib.hid (List.nil_append _)
  have HKS := Lib.hid (fun W (hW : Below (w.heap.size + 1) w1 W) => (show Blk2 W w.heap.size 39 (.int .i64 0) (.int .i64 x) from (hW.block w.heap.size (by omega)).trans HB3.out).cell.2)
  have HL2 : Hid (xs.length ≤ 1000) := Lib.hid (by omega)
  clear hrow hql
  go_enter Tryz.func120, Tryz.ntmps120
  go_wp2_with fail
  clear hw1
  have HZS : Hid (xs ++ [x] = ys) := Lib.hid HYS.out
  go_region_held3 (fun W => W.cell? ⟨w.heap.size, 1, none⟩ = some (.int .i64 x)) (first | exact HKS.out _ HB6.out | go_keep)
    (first | ((refine step_ap (by rfl) (.tmp 15) (.tmp 18) (by rfl) (w.heap.size + 1) (.slice (some ⟨g6, 0, none⟩) xs.length c6) xs [x] ys HZS.out (by simp) (by simp) HL2.out w6 w1.heap.size 0 1 (by rfl) (by rfl) HX6.out HO6.out (Nat.le_trans HS1.out HB6.out.size) ?_; intro g7 c7 w7 ho7 hb7 _; have HO7 := Lib.hid ho7; have HZ := Lib.hid (HB6.out.trans hb7); clear HB6; have HB6 := HZ; clear HZ ho7 hb7)) | ((refine step_sn (by rfl) (.tmp 15) (.tmp 18) (by rfl) (w.heap.size + 1) (.slice (some ⟨g6, 0, none⟩) xs.length c6) xs ys x HZS.out HL2.out w6 (by rfl) (by rfl) HO6.out (Nat.le_trans HS1.out HB6.out.size) ?_; intro g7 c7 w7 ho7 hb7; have HO7 := Lib.hid ho7; have HZ := Lib.hid (HB6.out.trans hb7); clear HB6; have HB6 := HZ; clear HZ ho7 hb7)) | ((refine step_ap (by rfl) (.tmp 13) (.tmp 14) (by rfl) (w.heap.size + 1) (.slice (some ⟨w.heap.size + 1, 0, none⟩) 0 0) [] xs xs HNA.out HL1.out HL2.out (by simp) _ q p c (by rfl) (by rfl) (by first | with_reducible exact HRW.out | with_reducible exact HRW2.out) (by first | with_reducible exact HM1.out | with_reducible exact HM3.out) (by first | with_reducible exact HS1.out | with_reducible exact HS2.out) ?_; intro g6 c6 w6 ho6 hb6 hu6; have HO6 := Lib.hid ho6; (try (have HX6 := Lib.hid (hu6.row (by with_reducible exact HX1.out) HNX.out); have HXL := Lib.hid (Nat.lt_of_lt_of_le HXS.out hu6.size))); have HB6 := Lib.hid (show Below (w.heap.size + 1) w1 w6 from (by first | with_reducible exact HBD.out.trans hb6 | with_reducible exact HBA.out.trans hb6)); clear ho6 hb6 hu6)))
  all_goals
    have HOW := Lib.hid (HO7.out.base (B' := w.heap.size) (by omega))
    have HBW := Lib.hid (HQ3.out.trans (HB6.out.mono (by omega)))
    clear HO7 HO6 HKS HM1 HMD HRW
    have HI8 := Lib.hid (ints_own HOW.out (by have := HOK.out.1; omega) HOK.out.2)
    cases hfy : famL ys with
    | false =>
      have hcb : cb = false := by rw [← HCH.out, hfy, Bool.false_and]
      have HFY := Lib.hid hfy
      subst hcb
      clear hfy
      go_wp2_with fail
      refine (specFamilyOk_val (some ⟨g7, 0, none⟩) ys.length c7 (fun j => ys.getD j 0) false _ HFY.out HI8.out).mono ?_
      rintro e w9 ⟨rfl, hd9⟩
      have HOE := Lib.hid (HOW.out.kept hd9.below)
      have HBE := Lib.hid (below_onto HBW.out hd9.below)
      clear hd9
      go_wp2_with fail
      go_ret2
      exact ⟨_, _, by first | rfl | trivial, HOE.out, HBE.out⟩
    | true =>
      have HFY := Lib.hid hfy
      by_cases hln : ys.length = xs.length
      · have hcb : cb = false := by rw [← HCH.out, hfy, decide_eq_false (fun h => h hln), Bool.and_false]
        have hne : ((ys.length : Int) != (xs.length : Int)) = false := by rw [hln]; simp
        subst hcb
        have HLN := Lib.hid hln
        clear hfy hln
        go_wp2_with fail
        refine (specFamilyOk_val (some ⟨g7, 0, none⟩) ys.length c7 (fun j => ys.getD j 0) true _ HFY.out HI8.out).mono ?_
        rintro e w9 ⟨rfl, hd9⟩
        have HOE := Lib.hid (HOW.out.kept hd9.below)
        have HBE := Lib.hid (below_onto HBW.out hd9.below)
        clear hd9
        go_wp2_with fail
        go_ret2
        exact ⟨_, _, by first | rfl | trivial, HOE.out, HBE.out⟩
      · have hcb : cb = true := by rw [← HCH.out, hfy, decide_eq_true hln]; rfl
        have hne : ((ys.length : Int) != (xs.length : Int)) = true := by simp; omega
        subst hcb
        clear hfy hln
        go_wp2_with fail
        refine (specFamilyOk_val (some ⟨g7, 0, none⟩) ys.length c7 (fun j => ys.getD j 0) true _ HFY.out HI8.out).mono ?_
        rintro e w9 ⟨rfl, hd9⟩
        have HOE := Lib.hid (HOW.out.kept hd9.below)
        have HBE := Lib.hid (below_onto HBW.out hd9.below)
        clear hd9
        go_wp2_with fail
        go_ret2
        exact ⟨_, _, by first | rfl | trivial, HOE.out, HBE.out⟩
set_option maxRecDepth 100000 in
set_option maxHeartbeats 3200000 in
theorem l12Made_none (a : Option Addr) (c : Nat) (xs : List Int) (k x : Int) (hx : I64 x) (h0 : k ≠ 0) (h1 : k ≠ 1) (h2 : ¬ (k = 2 ∧ x = 0)) (h3 : ¬ (k = 3 ∧ x = 0)) (hf : famL xs = true) (w : World) (h : Ints w a xs.length (fun j => xs.getD j 0)) :
    Calls Tryz.prog 120 #[.slice a xs.length c, .agg #[.int .i64 k, .int .i64 x]] w (MadeEnd (mdS xs (k) (x)) (chB xs (k) (x)) w) := by
  have hq := alloc_below w (.cells #[.int .i64 (k), .int .i64 (x)] 39)
  have hb2 := Blk2.new w 39 (.int .i64 (k)) (.int .i64 (x))
  have hal := alloc_below (w.alloc (.cells #[.int .i64 (k), .int .i64 (x)] 39)) (.cells #[] 3)
  have hmd : OwnX ((w.alloc (.cells #[.int .i64 (k), .int .i64 (x)] 39)).alloc (.cells #[] 3)) (w.alloc (.cells #[.int .i64 (k), .int .i64 (x)] 39)).heap.size 3 (.slice (some ⟨(w.alloc (.cells #[.int .i64 (k), .int .i64 (x)] 39)).heap.size, 0, none⟩) 0 0) [] := OwnX.made _ _ (Nat.le_refl _) _
  rw [alloc_size] at hmd
  have hb3 := hb2.kept hal hb2.lt
  have hq3 := below_onto hq hal
  have hi3 := h.below hq3 (Nat.le_refl _)
  have hsz : ((w.alloc (.cells #[.int .i64 (k), .int .i64 (x)] 39)).alloc (.cells #[] 3)).heap.size = w.heap.size + 2 := by rw [alloc_size, alloc_size]
  obtain ⟨w1, hw1⟩ : ∃ w1, (w.alloc (.cells #[.int .i64 (k), .int .i64 (x)] 39)).alloc (.cells #[] 3) = w1 := ⟨_, rfl⟩
  rw [hw1] at hmd hb3 hq3 hi3 hsz
  have HB3 := Lib.hid hb3; have HQ3 := Lib.hid hq3; have HI3 := Lib.hid hi3; have HMD := Lib.hid hmd; have HF := Lib.hid hf
  have hlen := famL_len hf
  have HSZ := Lib.hid hsz
  have hc0 := hb3.cell.1; have hc1 := hb3.cell.2
  have HOKS := Lib.hid (ms_ok (k := k) (x := x) hf hx)
  have HCH := Lib.hid (ms_ch (k := k) (x := x) hf)
  obtain ⟨cb, hcb⟩ : ∃ cb, chB xs (k) (x) = cb := ⟨_, rfl⟩
  rw [hcb] at HCH ⊢
  obtain ⟨ys, hys⟩ : ∃ ys, mdS xs (k) (x) = ys := ⟨_, rfl⟩
  rw [hys] at HCH HOKS ⊢
  have HYS := Lib.hid hys
  have HOK := HOKS
  have HIH := Lib.hid h
  clear h hq hb2 hal hmd hb3 hq3 hi3 hsz hf hcb hys HOKS
  have hk0 : (k == 0) = false := by simpa using h0
  have hk1 : (k == 1) = false := by simpa using h1
  have hk2 := fun W => eqDeedV_val k x 2 0 false (by rw [Bool.and_eq_false_iff]; simp; omega) W
  have hk3 := fun W => eqDeedV_val k x 3 0 false (by rw [Bool.and_eq_false_iff]; simp; omega) W
  have hys : mdS xs k x = [] := by unfold mdS; rw [if_neg h0, if_neg h1, if_neg h2, if_neg h3]
  rw [HYS.out] at hys
  subst hys
  have hcb : cb = false := by rw [← HCH.out, famL_nil, Bool.false_and]
  subst hcb
  have HI8 := Lib.hid (ints_own (ys := []) HMD.out (by simp) (fun y hy => by simp at hy))
  have HN := Lib.hid famL_nil
  have HM2 := Lib.hid (HMD.out.base (B' := w.heap.size) (by omega))
  clear h0 h1 h2 h3
  go_enter Tryz.func120, Tryz.ntmps120
  go_wp2_with fail
  clear hw1
  refine (specFamilyOk_val (some ⟨w.heap.size + 1, 0, none⟩) 0 0 (fun j => ([] : List Int).getD j 0) false _ HN.out HI8.out).mono ?_
  rintro e w9 ⟨rfl, hd9⟩
  have HOE := Lib.hid (HM2.out.kept hd9.below)
  have HBE := Lib.hid (below_onto HQ3.out hd9.below)
  clear hd9
  go_wp2_with fail
  go_ret2
  exact ⟨_, _, by first | rfl | trivial, HOE.out, HBE.out⟩
set_option maxRecDepth 100000 in
set_option maxHeartbeats 3200000 in
theorem l12Made_points (a : Option Addr) (c : Nat) (xs : List Int)  (hf : famL xs = true) (w : World) (h : Ints w a xs.length (fun j => xs.getD j 0)) :
    Calls Tryz.prog 120 #[.slice a xs.length c, .agg #[.int .i64 2, .int .i64 0]] w (MadeEnd (mdS xs (2) (0)) (chB xs (2) (0)) w) := by
  have hq := alloc_below w (.cells #[.int .i64 (2), .int .i64 (0)] 39)
  have hb2 := Blk2.new w 39 (.int .i64 (2)) (.int .i64 (0))
  have hal := alloc_below (w.alloc (.cells #[.int .i64 (2), .int .i64 (0)] 39)) (.cells #[] 3)
  have hmd : OwnX ((w.alloc (.cells #[.int .i64 (2), .int .i64 (0)] 39)).alloc (.cells #[] 3)) (w.alloc (.cells #[.int .i64 (2), .int .i64 (0)] 39)).heap.size 3 (.slice (some ⟨(w.alloc (.cells #[.int .i64 (2), .int .i64 (0)] 39)).heap.size, 0, none⟩) 0 0) [] := OwnX.made _ _ (Nat.le_refl _) _
  rw [alloc_size] at hmd
  have hb3 := hb2.kept hal hb2.lt
  have hq3 := below_onto hq hal
  have hi3 := h.below hq3 (Nat.le_refl _)
  have hsz : ((w.alloc (.cells #[.int .i64 (2), .int .i64 (0)] 39)).alloc (.cells #[] 3)).heap.size = w.heap.size + 2 := by rw [alloc_size, alloc_size]
  obtain ⟨w1, hw1⟩ : ∃ w1, (w.alloc (.cells #[.int .i64 (2), .int .i64 (0)] 39)).alloc (.cells #[] 3) = w1 := ⟨_, rfl⟩
  rw [hw1] at hmd hb3 hq3 hi3 hsz
  have HB3 := Lib.hid hb3; have HQ3 := Lib.hid hq3; have HI3 := Lib.hid hi3; have HMD := Lib.hid hmd; have HF := Lib.hid hf
  have hlen := famL_len hf
  have HSZ := Lib.hid hsz
  have hc0 := hb3.cell.1; have hc1 := hb3.cell.2
  have HOKS := Lib.hid (ms_ok (k := 2) (x := 0) hf (by unfold I64; omega))
  have HCH := Lib.hid (ms_ch (k := 2) (x := 0) hf)
  obtain ⟨cb, hcb⟩ : ∃ cb, chB xs (2) (0) = cb := ⟨_, rfl⟩
  rw [hcb] at HCH ⊢
  obtain ⟨ys, hys⟩ : ∃ ys, mdS xs (2) (0) = ys := ⟨_, rfl⟩
  rw [hys] at HCH HOKS ⊢
  have HYS := Lib.hid hys
  have HOK := HOKS
  have HIH := Lib.hid h
  clear h hq hb2 hal hmd hb3 hq3 hi3 hsz hf hcb hys HOKS
  have hk2 := fun W => eqDeedV_val 2 0 2 0 true rfl W
  go_enter Tryz.func120, Tryz.ntmps120
  go_wp2_with fail
  clear hw1
  refine (specWithPoints_any a xs.length c (fun j => xs.getD j 0) _ HI3.out).mono ?_
  rintro e w6 ⟨v, rfl, hown, hb⟩
  have hys2 : doneL xs.length (fun i => xs.getD i 0) (FP (memS xs.length (fun i => xs.getD i 0))) = ys := HYS.out
  rw [hys2] at hown
  have hown := hown.base (B' := w.heap.size) HQ3.out.size
  obtain ⟨ga, gc, rfl⟩ := hown.slice
  have HOW := Lib.hid hown
  have HBW := Lib.hid (below_onto HQ3.out hb)
  clear hown hb hys2
  have HI8 := Lib.hid (ints_own HOW.out (by have := HOK.out.1; omega) HOK.out.2)
  cases hfy : famL ys with
  | false =>
    have hcb : cb = false := by rw [← HCH.out, hfy, Bool.false_and]
    have HFY := Lib.hid hfy
    subst hcb
    clear hfy
    go_wp2_with fail
    refine (specFamilyOk_val ga ys.length gc (fun j => ys.getD j 0) false _ HFY.out HI8.out).mono ?_
    rintro e w9 ⟨rfl, hd9⟩
    have HOE := Lib.hid (HOW.out.kept hd9.below)
    have HBE := Lib.hid (below_onto HBW.out hd9.below)
    clear hd9
    go_wp2_with fail
    go_ret2
    exact ⟨_, _, by first | rfl | trivial, HOE.out, HBE.out⟩
  | true =>
    have HFY := Lib.hid hfy
    by_cases hln : ys.length = xs.length
    · have hcb : cb = false := by rw [← HCH.out, hfy, decide_eq_false (fun h => h hln), Bool.and_false]
      have hne : ((ys.length : Int) != (xs.length : Int)) = false := by rw [hln]; simp
      subst hcb
      have HLN := Lib.hid hln
      clear hfy hln
      go_wp2_with fail
      refine (specFamilyOk_val ga ys.length gc (fun j => ys.getD j 0) true _ HFY.out HI8.out).mono ?_
      rintro e w9 ⟨rfl, hd9⟩
      have HOE := Lib.hid (HOW.out.kept hd9.below)
      have HBE := Lib.hid (below_onto HBW.out hd9.below)
      clear hd9
      go_wp2_with fail
      go_ret2
      exact ⟨_, _, by first | rfl | trivial, HOE.out, HBE.out⟩
    · have hcb : cb = true := by rw [← HCH.out, hfy, decide_eq_true hln]; rfl
      have hne : ((ys.length : Int) != (xs.length : Int)) = true := by simp; omega
      subst hcb
      clear hfy hln
      go_wp2_with fail
      refine (specFamilyOk_val ga ys.length gc (fun j => ys.getD j 0) true _ HFY.out HI8.out).mono ?_
      rintro e w9 ⟨rfl, hd9⟩
      have HOE := Lib.hid (HOW.out.kept hd9.below)
      have HBE := Lib.hid (below_onto HBW.out hd9.below)
      clear hd9
      go_wp2_with fail
      go_ret2
      exact ⟨_, _, by first | rfl | trivial, HOE.out, HBE.out⟩
set_option maxRecDepth 100000 in
set_option maxHeartbeats 3200000 in
theorem l12Made_sums (a : Option Addr) (c : Nat) (xs : List Int)  (hf : famL xs = true) (w : World) (h : Ints w a xs.length (fun j => xs.getD j 0)) :
    Calls Tryz.prog 120 #[.slice a xs.length c, .agg #[.int .i64 3, .int .i64 0]] w (MadeEnd (mdS xs (3) (0)) (chB xs (3) (0)) w) := by
  have hq := alloc_below w (.cells #[.int .i64 (3), .int .i64 (0)] 39)
  have hb2 := Blk2.new w 39 (.int .i64 (3)) (.int .i64 (0))
  have hal := alloc_below (w.alloc (.cells #[.int .i64 (3), .int .i64 (0)] 39)) (.cells #[] 3)
  have hmd : OwnX ((w.alloc (.cells #[.int .i64 (3), .int .i64 (0)] 39)).alloc (.cells #[] 3)) (w.alloc (.cells #[.int .i64 (3), .int .i64 (0)] 39)).heap.size 3 (.slice (some ⟨(w.alloc (.cells #[.int .i64 (3), .int .i64 (0)] 39)).heap.size, 0, none⟩) 0 0) [] := OwnX.made _ _ (Nat.le_refl _) _
  rw [alloc_size] at hmd
  have hb3 := hb2.kept hal hb2.lt
  have hq3 := below_onto hq hal
  have hi3 := h.below hq3 (Nat.le_refl _)
  have hsz : ((w.alloc (.cells #[.int .i64 (3), .int .i64 (0)] 39)).alloc (.cells #[] 3)).heap.size = w.heap.size + 2 := by rw [alloc_size, alloc_size]
  obtain ⟨w1, hw1⟩ : ∃ w1, (w.alloc (.cells #[.int .i64 (3), .int .i64 (0)] 39)).alloc (.cells #[] 3) = w1 := ⟨_, rfl⟩
  rw [hw1] at hmd hb3 hq3 hi3 hsz
  have HB3 := Lib.hid hb3; have HQ3 := Lib.hid hq3; have HI3 := Lib.hid hi3; have HMD := Lib.hid hmd; have HF := Lib.hid hf
  have hlen := famL_len hf
  have HSZ := Lib.hid hsz
  have hc0 := hb3.cell.1; have hc1 := hb3.cell.2
  have HOKS := Lib.hid (ms_ok (k := 3) (x := 0) hf (by unfold I64; omega))
  have HCH := Lib.hid (ms_ch (k := 3) (x := 0) hf)
  obtain ⟨cb, hcb⟩ : ∃ cb, chB xs (3) (0) = cb := ⟨_, rfl⟩
  rw [hcb] at HCH ⊢
  obtain ⟨ys, hys⟩ : ∃ ys, mdS xs (3) (0) = ys := ⟨_, rfl⟩
  rw [hys] at HCH HOKS ⊢
  have HYS := Lib.hid hys
  have HOK := HOKS
  have HIH := Lib.hid h
  clear h hq hb2 hal hmd hb3 hq3 hi3 hsz hf hcb hys HOKS
  have hk2 := fun W => eqDeedV_val 3 0 2 0 false rfl W
  have hk3 := fun W => eqDeedV_val 3 0 3 0 true rfl W
  go_enter Tryz.func120, Tryz.ntmps120
  go_wp2_with fail
  clear hw1
  refine (specWithSums_any a xs.length c (fun j => xs.getD j 0) _ HI3.out).mono ?_
  rintro e w6 ⟨v, rfl, hown, hb⟩
  have hys2 : doneL xs.length (fun i => xs.getD i 0) (FS xs.length (fun i => xs.getD i 0)) = ys := HYS.out
  rw [hys2] at hown
  have hown := hown.base (B' := w.heap.size) HQ3.out.size
  obtain ⟨ga, gc, rfl⟩ := hown.slice
  have HOW := Lib.hid hown
  have HBW := Lib.hid (below_onto HQ3.out hb)
  clear hown hb hys2
  have HI8 := Lib.hid (ints_own HOW.out (by have := HOK.out.1; omega) HOK.out.2)
  cases hfy : famL ys with
  | false =>
    have hcb : cb = false := by rw [← HCH.out, hfy, Bool.false_and]
    have HFY := Lib.hid hfy
    subst hcb
    clear hfy
    go_wp2_with fail
    refine (specFamilyOk_val ga ys.length gc (fun j => ys.getD j 0) false _ HFY.out HI8.out).mono ?_
    rintro e w9 ⟨rfl, hd9⟩
    have HOE := Lib.hid (HOW.out.kept hd9.below)
    have HBE := Lib.hid (below_onto HBW.out hd9.below)
    clear hd9
    go_wp2_with fail
    go_ret2
    exact ⟨_, _, by first | rfl | trivial, HOE.out, HBE.out⟩
  | true =>
    have HFY := Lib.hid hfy
    by_cases hln : ys.length = xs.length
    · have hcb : cb = false := by rw [← HCH.out, hfy, decide_eq_false (fun h => h hln), Bool.and_false]
      have hne : ((ys.length : Int) != (xs.length : Int)) = false := by rw [hln]; simp
      subst hcb
      have HLN := Lib.hid hln
      clear hfy hln
      go_wp2_with fail
      refine (specFamilyOk_val ga ys.length gc (fun j => ys.getD j 0) true _ HFY.out HI8.out).mono ?_
      rintro e w9 ⟨rfl, hd9⟩
      have HOE := Lib.hid (HOW.out.kept hd9.below)
      have HBE := Lib.hid (below_onto HBW.out hd9.below)
      clear hd9
      go_wp2_with fail
      go_ret2
      exact ⟨_, _, by first | rfl | trivial, HOE.out, HBE.out⟩
    · have hcb : cb = true := by rw [← HCH.out, hfy, decide_eq_true hln]; rfl
      have hne : ((ys.length : Int) != (xs.length : Int)) = true := by simp; omega
      subst hcb
      clear hfy hln
      go_wp2_with fail
      refine (specFamilyOk_val ga ys.length gc (fun j => ys.getD j 0) true _ HFY.out HI8.out).mono ?_
      rintro e w9 ⟨rfl, hd9⟩
      have HOE := Lib.hid (HOW.out.kept hd9.below)
      have HBE := Lib.hid (below_onto HBW.out hd9.below)
      clear hd9
      go_wp2_with fail
      go_ret2
      exact ⟨_, _, by first | rfl | trivial, HOE.out, HBE.out⟩
set_option maxRecDepth 100000 in
set_option maxHeartbeats 3200000 in
theorem l12Made_take (a : Option Addr) (c : Nat) (xs : List Int) (x : Int) (hx : I64 x) (hf : famL xs = true) (w : World) (h : Ints w a xs.length (fun j => xs.getD j 0)) :
    Calls Tryz.prog 120 #[.slice a xs.length c, .agg #[.int .i64 1, .int .i64 x]] w (MadeEnd (mdS xs (1) (x)) (chB xs (1) (x)) w) := by
  have hq := alloc_below w (.cells #[.int .i64 (1), .int .i64 (x)] 39)
  have hb2 := Blk2.new w 39 (.int .i64 (1)) (.int .i64 (x))
  have hal := alloc_below (w.alloc (.cells #[.int .i64 (1), .int .i64 (x)] 39)) (.cells #[] 3)
  have hmd : OwnX ((w.alloc (.cells #[.int .i64 (1), .int .i64 (x)] 39)).alloc (.cells #[] 3)) (w.alloc (.cells #[.int .i64 (1), .int .i64 (x)] 39)).heap.size 3 (.slice (some ⟨(w.alloc (.cells #[.int .i64 (1), .int .i64 (x)] 39)).heap.size, 0, none⟩) 0 0) [] := OwnX.made _ _ (Nat.le_refl _) _
  rw [alloc_size] at hmd
  have hb3 := hb2.kept hal hb2.lt
  have hq3 := below_onto hq hal
  have hi3 := h.below hq3 (Nat.le_refl _)
  have hsz : ((w.alloc (.cells #[.int .i64 (1), .int .i64 (x)] 39)).alloc (.cells #[] 3)).heap.size = w.heap.size + 2 := by rw [alloc_size, alloc_size]
  obtain ⟨w1, hw1⟩ : ∃ w1, (w.alloc (.cells #[.int .i64 (1), .int .i64 (x)] 39)).alloc (.cells #[] 3) = w1 := ⟨_, rfl⟩
  rw [hw1] at hmd hb3 hq3 hi3 hsz
  have HB3 := Lib.hid hb3; have HQ3 := Lib.hid hq3; have HI3 := Lib.hid hi3; have HMD := Lib.hid hmd; have HF := Lib.hid hf
  have hlen := famL_len hf
  have HSZ := Lib.hid hsz
  have hc0 := hb3.cell.1; have hc1 := hb3.cell.2
  have HOKS := Lib.hid (ms_ok (k := 1) (x := x) hf hx)
  have HCH := Lib.hid (ms_ch (k := 1) (x := x) hf)
  obtain ⟨cb, hcb⟩ : ∃ cb, chB xs (1) (x) = cb := ⟨_, rfl⟩
  rw [hcb] at HCH ⊢
  obtain ⟨ys, hys⟩ : ∃ ys, mdS xs (1) (x) = ys := ⟨_, rfl⟩
  rw [hys] at HCH HOKS ⊢
  have HYS := Lib.hid hys
  have HOK := HOKS
  have HIH := Lib.hid h
  clear h hq hb2 hal hmd hb3 hq3 hi3 hsz hf hcb hys HOKS
  obtain ⟨i0, hi0, hz0, hz1, hz2⟩ := info_parts Tryz.infoInt
  have HM2 := Lib.hid (HMD.out.base (B' := w.heap.size + 1) (Nat.le_refl _))
  have HST : Hid (TakeS xs x w w1 0 (.slice (some ⟨w.heap.size + 1, 0, none⟩) 0 0) w1) := Lib.hid ⟨HM2.out, Below.refl _ _⟩
  obtain ⟨q, p, rfl, hql, hrow⟩ := HIH.out.row hlen.1
  have HRW := Lib.hid (fun W (hW : Below w.heap.size w W) => hrow.below hW hql)
  have HML := Lib.hid (show ∀ k, ((xs.take k).filter (fun y => y != x)).length ≤ 7 from fun k => Nat.le_trans (List.length_filter_le _ _) (by rw [List.length_take]; omega))
  obtain ⟨n, hn⟩ : ∃ n, xs.length = n := ⟨_, rfl⟩
  have HN := Lib.hid hn
  rw [hn] at HRW ⊢
  have hn7 : 1 ≤ n ∧ n ≤ 7 := by omega
  clear hrow hql HM2 hlen
  go_enter Tryz.func120, Tryz.ntmps120
  go_wp2_with fail
  clear hw1 hc0 hc1 hn
  go_loopw [6, 7] (fun v i wr => ∃ k : Nat, k ≤ n ∧ i = .int .i64 k ∧ Hid (TakeS xs x w w1 k v wr)) (fun _ i _ => n - (intOf i).toNat)
  case atStart => exact ⟨0, Nat.zero_le _, rfl, HST⟩
  case round =>
    clear HST
    obtain ⟨k, hk, rfl, HS⟩ := hrel
    obtain ⟨va, vc, hv⟩ := HS.out.own.slice
    subst hv
    have HBW := Lib.hid (HQ3.out.trans (HS.out.bel.mono (by omega)))
    by_cases hlt : k < n
    · have hki : (k : Int) < (n : Int) := by omega
      have hk0 : (0 : Int) ≤ (k : Int) := by omega
      have hkl : k < xs.length := by rw [HN.out]; exact hlt
      have hc := (HRW.out wr HBW.out) k hlt
      have hE : Blk2 wr w.heap.size 39 (.int .i64 1) (.int .i64 x) := (HS.out.bel.block w.heap.size (by omega)).trans HB3.out
      have he1 := hE.cell.2
      have hfi := filt_in (x := x) hkl
      have hfo := filt_out (x := x) hkl
      obtain ⟨y, hy⟩ : ∃ y, xs.getD k 0 = y := ⟨_, rfl⟩
      dsimp only at hc
      rw [hy] at hc hfi hfo
      clear hE hkl hy
      cases hb : (y != x) with
      | true =>
        have HFI := Lib.hid (hfi hb)
        have hb2 : (y == x) = false := by simpa using hb
        have k1 := Lib.hid (fun (W : World) (j : Nat) (u : Value) (h : [Value.int .i64 y][j]? = some u) => cell_one_new W (.int .i64 y) 3 j u h)
        have k2 : Hid (∀ u ∈ [Value.int .i64 y], u.oneCell' = true) := Lib.hid (by intro u hu; simp at hu; subst hu; rfl)
        have k3 := Lib.hid (show ((xs.take k).filter (fun y => y != x)).length + 1 ≤ maxLen by have := HML.out k; unfold maxLen; omega)
        have k4 := Lib.hid (show (((xs.take k).filter (fun y => y != x)).length + 1) * 8 ≤ 140737488355328 by have := HML.out k; omega)
        have HOM := Lib.hid (fun W (hW : Below wr.heap.size wr W) => HS.out.own.kept hW)
        have HSL := Lib.hid (show w.heap.size + 1 ≤ wr.heap.size by have := HS.out.bel.size; have := HSZ.out; omega)
        clear hfi hfo
        go_wp2_with fail
        go_quiet (fail)
        go_wp2_with (at_builtin; refine wpList_append_own _ rfl (.tmp 37) (.tmp 42) 28 rfl (w.heap.size + 1) 3 i0 (.int .i64 0) 1 8 Tryz.underlying28 hi0 hz0 hz1 hz2 rfl (by decide) _ _ _ rfl ((HOM.out _ (below_drewN (Below.refl _ _) _)).alloc _) ⟨_, 0, none⟩ 1 1 [.int .i64 y] rfl rfl (k1.out _) k2.out k3.out k4.out (Nat.le_trans HSL.out (by rw [alloc_size]; exact Nat.le_succ _)) ?_)
        intro v5 w5 hown5 hgrow5 _
        have hb5 : Below (w.heap.size + 1) w1 w5 := ((below_drewN HS.out.bel _).alloc (HSL.out) _).grown hgrow5 (Nat.le_trans HSL.out (by rw [alloc_size]; exact Nat.le_succ _)) (fun q hq => (HS.out.own.lt hq).1)
        have HST5 : Hid (TakeS xs x w w1 (k + 1) v5 w5) := Lib.hid ⟨by rw [HFI.out]; exact OwnX.snoc hown5, hb5⟩
        clear hown5 hgrow5 hb5 k1 k2 k3 k4 HOM HSL
        go_wp2_with fail
        go_roundw
        case rel => exact ⟨k + 1, by omega, by go_num, HST5⟩
        case measure => simp [intOf]; omega
      | false =>
        have HFO := Lib.hid (hfo hb)
        have hb2 : (y == x) = true := by simpa using hb
        clear hfi hfo
        go_wp2_with fail
        go_quiet (fail)
        go_wp2_with fail
        go_roundw
        case rel => exact ⟨k + 1, by omega, by go_num, Lib.hid ⟨by rw [HFO.out]; exact HS.out.own.kept (by first | exact (Below.refl _ _).drew | exact below_drewN (Below.refl _ _) _), by first | exact HS.out.bel.drew | exact below_drewN HS.out.bel _⟩⟩
        case measure => simp [intOf]; omega
    · have hki : ¬ (k : Int) < (n : Int) := by omega
      have hkn : k = n := by omega
      have hys2 : (xs.take k).filter (fun y => y != x) = ys := by rw [hkn, List.take_of_length_le (by rw [HN.out]; exact Nat.le_refl _)]; exact HYS.out
      have hown := HS.out.own.base (B' := w.heap.size) (by omega)
      rw [hys2] at hown ⊢
      have HOW := Lib.hid hown
      subst hkn
      obtain ⟨ga, hga⟩ : ∃ ga, va = ga := ⟨_, rfl⟩
      obtain ⟨gc, hgc⟩ : ∃ gc, vc = gc := ⟨_, rfl⟩
      rw [hga, hgc] at HOW ⊢
      clear hown hys2 hga hgc HS
      rw [HN.out] at HCH
      have HI8 := Lib.hid (ints_own HOW.out (by have := HOK.out.1; omega) HOK.out.2)
      cases hfy : famL ys with
      | false =>
        have hcb : cb = false := by rw [← HCH.out, hfy, Bool.false_and]
        have HFY := Lib.hid hfy
        subst hcb
        clear hfy
        go_wp2_with fail
        refine (specFamilyOk_val ga ys.length gc (fun j => ys.getD j 0) false _ HFY.out HI8.out).mono ?_
        rintro e w9 ⟨rfl, hd9⟩
        have HOE := Lib.hid (HOW.out.kept hd9.below)
        have HBE := Lib.hid (below_onto HBW.out hd9.below)
        clear hd9
        go_wp2_with fail
        go_ret2
        exact ⟨_, _, by first | rfl | trivial, HOE.out, HBE.out⟩
      | true =>
        have HFY := Lib.hid hfy
        by_cases hln : ys.length = k
        · have hcb : cb = false := by rw [← HCH.out, hfy, decide_eq_false (fun h => h hln), Bool.and_false]
          have hne : ((ys.length : Int) != (k : Int)) = false := by rw [hln]; simp
          subst hcb
          have HLN := Lib.hid hln
          clear hfy hln
          go_wp2_with fail
          refine (specFamilyOk_val ga ys.length gc (fun j => ys.getD j 0) true _ HFY.out HI8.out).mono ?_
          rintro e w9 ⟨rfl, hd9⟩
          have HOE := Lib.hid (HOW.out.kept hd9.below)
          have HBE := Lib.hid (below_onto HBW.out hd9.below)
          clear hd9
          go_wp2_with fail
          go_ret2
          exact ⟨_, _, by first | rfl | trivial, HOE.out, HBE.out⟩
        · have hcb : cb = true := by rw [← HCH.out, hfy, decide_eq_true hln]; rfl
          have hne : ((ys.length : Int) != (k : Int)) = true := by simp; omega
          subst hcb
          clear hfy hln
          go_wp2_with fail
          refine (specFamilyOk_val ga ys.length gc (fun j => ys.getD j 0) true _ HFY.out HI8.out).mono ?_
          rintro e w9 ⟨rfl, hd9⟩
          have HOE := Lib.hid (HOW.out.kept hd9.below)
          have HBE := Lib.hid (below_onto HBW.out hd9.below)
          clear hd9
          go_wp2_with fail
          go_ret2
          exact ⟨_, _, by first | rfl | trivial, HOE.out, HBE.out⟩
end Go.Proofs.YthaickihoagnmaaGreatDoor
namespace Go.Proofs.YthaickihoagnmaaGreatDoor
set_option linter.unusedVariables false
set_option linter.unusedSimpArgs false
open Go.RowKit Go.Maps
structure Start3 (w : World) (X Y : Value) (k x : Int) (w3 : World) : Prop where
  d : Blk2 w3 w.heap.size 31 X Y
  e : Blk2 w3 (w.heap.size + 1) 39 (.int .i64 k) (.int .i64 x)
  r : Blk2 w3 (w.heap.size + 1 + 1) 31 (.slice none 0 0) (.slice none 0 0)
  size : w3.heap.size = w.heap.size + 3
  bel : Below w.heap.size w w3
theorem start3 (w : World) (X Y : Value) (k x : Int) : Start3 w X Y k x (((w.alloc (.cells #[X, Y] 31)).alloc (.cells #[.int .i64 k, .int .i64 x] 39)).alloc (.cells #[.slice none 0 0, .slice none 0 0] 31)) := by
  have q1 := alloc_below w (.cells #[X, Y] 31)
  have q2 := alloc_below (w.alloc (.cells #[X, Y] 31)) (.cells #[.int .i64 k, .int .i64 x] 39)
  have q3 := alloc_below ((w.alloc (.cells #[X, Y] 31)).alloc (.cells #[.int .i64 k, .int .i64 x] 39)) (.cells #[.slice none 0 0, .slice none 0 0] 31)
  have b1' := (Blk2.new w 31 X Y).kept q2 (by rw [alloc_size]; omega)
  have b2' := (Blk2.new (w.alloc (.cells #[X, Y] 31)) 39 (.int .i64 k) (.int .i64 x))
  have b3 := Blk2.new ((w.alloc (.cells #[X, Y] 31)).alloc (.cells #[.int .i64 k, .int .i64 x] 39)) 31 (.slice none 0 0) (.slice none 0 0)
  have b2 := b2'.kept q3 b2'.lt
  rw [alloc_size] at b2
  rw [alloc_size, alloc_size] at b3
  exact ⟨b1'.kept q3 b1'.lt, b2, b3, by rw [alloc_size, alloc_size, alloc_size], below_onto q1 (below_onto q2 q3)⟩
theorem deedT_empX {k x : Int} {v : Bool} (h : dOk k x = v) : (deedT k x).toList.isEmpty = !v := by
  unfold deedT
  rw [bs_list]
  cases v with
  | false => rw [deedL_no h]; rfl
  | true =>
    cases hl : deedL k x with
    | nil => rw [deedL_iff.1 hl] at h; cases h
    | cons _ _ => rfl
theorem GivesD.on {xs : List Int} {L : List (List Int)} {w w5 w6 : World} {R : Nat} {v1 v2 : Value} (hg : GivesD xs L w5 w6 v1 v2) (hb : Below w.heap.size w w5) (hR : w.heap.size ≤ R) (hl : R < w5.heap.size) :
    GivesD xs L w ((w6.setCell ⟨R, 0, none⟩ v1).setCell ⟨R, 1, none⟩ v2) v1 v2 := by
  obtain ⟨rs, hdg, hrs, hb2⟩ := hg
  exact ⟨rs, ((hdg.put (p := ⟨R, 0, none⟩) hl).put (p := ⟨R, 1, none⟩) hl).base hb.size, hrs, ((below_onto hb hb2).setCell (p := ⟨R, 0, none⟩) hR _).setCell (p := ⟨R, 1, none⟩) hR _⟩
set_option maxRecDepth 100000 in
set_option maxHeartbeats 3200000 in
theorem DeskDo_any (d : Value) (xs : List Int) (L : List (List Int)) (k x : Int) (hx : I64 x) (w : World) (h : DeskR w d xs L) :
    Calls Tryz.prog 54 #[d, .agg #[.int .i64 k, .int .i64 x]] w (DoneD (dkB xs L k x) (dkX xs L k x) (dkL xs L k x) w) := by
  have hdd := h
  obtain ⟨a, c, b, c2, rfl, _⟩ := h.parts
  have hst := start3 w (.slice a xs.length c) (.slice b L.length c2) k x
  have hdr := hdd.kept hst.bel
  obtain ⟨w3, hw3⟩ : ∃ w3, ((w.alloc (.cells #[.slice a xs.length c, .slice b L.length c2] 31)).alloc (.cells #[.int .i64 k, .int .i64 x] 39)).alloc (.cells #[.slice none 0 0, .slice none 0 0] 31) = w3 := ⟨_, rfl⟩
  rw [hw3] at hst hdr
  have HST := Lib.hid hst; have HDR := Lib.hid hdr; have HX := Lib.hid hx
  have HKD := Lib.hid (show ∀ W, Below w3.heap.size w3 W → (Blk2 W w.heap.size 31 (.slice a xs.length c) (.slice b L.length c2) ∧ Blk2 W (w.heap.size + 1) 39 (.int .i64 k) (.int .i64 x) ∧ Blk2 W (w.heap.size + 1 + 1) 31 (.slice none 0 0) (.slice none 0 0)) from
    fun W hW => ⟨hst.d.kept hW hst.d.lt, hst.e.kept hW hst.e.lt, hst.r.kept hW hst.r.lt⟩)
  have HZ := Lib.hid (show w.heap.size + 1 + 1 < w3.heap.size by have := hst.size; omega)
  have hd0 := hst.d.cell.1; have hd1 := hst.d.cell.2
  clear h hdd hst hdr hx
  cases hdk : deskB xs L with
  | false =>
    obtain ⟨e1, e2, e3⟩ := dk_none (k := k) (x := x) hdk
    rw [e1, e2, e3]
    have HDK := Lib.hid hdk
    clear e1 e2 e3 hdk
    go_enter Tryz.func54, Tryz.ntmps54
    go_wp2_with fail
    refine (DeskOk_any _ xs L _ HDR.out).mono ?_
    rintro e w4 ⟨rfl, hb4⟩
    rw [HDK.out]
    obtain ⟨hD, hE, hR⟩ := HKD.out _ hb4
    have hx0 := hR.cell.1; have hx1 := hR.cell.2; have hx2 := hR.frozen 0; have hx3 := hR.frozen 1
    have HR := Lib.hid hR; have HB := Lib.hid (below_onto HST.out.bel hb4)
    clear hb4 hD hE hR hd0 hd1
    go_wp2_with fail
    refine bodyPost_ret (results_desk rfl _ _ (w.heap.size + 1 + 1) ((HR.out.set0 (.slice none 0 0)).set1 (.slice none 0 0)) rfl rfl (by kernel_rfl)) rfl ?_
    exact ⟨_, _, rfl, noDesk_gives ((HB.out.setCell (p := ⟨w.heap.size + 1 + 1, 0, none⟩) (show w.heap.size ≤ w.heap.size + 1 + 1 by omega) _).setCell (p := ⟨w.heap.size + 1 + 1, 1, none⟩) (show w.heap.size ≤ w.heap.size + 1 + 1 by omega) _)⟩
  | true =>
    have HDK := Lib.hid hdk
    cases hok : dOk k x with
    | false =>
      have hno := dkB_text (xs := xs) (L := L) hok
      obtain ⟨e2, e3⟩ := dk_no hno hdk
      rw [hno, e2, e3]
      have hem := deedT_empX hok
      have HOK := Lib.hid hok
      clear hno e2 e3 hdk hok
      go_enter Tryz.func54, Tryz.ntmps54
      go_wp2_with fail
      refine (DeskOk_any _ xs L _ HDR.out).mono ?_
      rintro e w4 ⟨rfl, hb4⟩
      rw [HDK.out]
      obtain ⟨hD, hE, hR⟩ := HKD.out _ hb4
      have HB4 := Lib.hid hb4
      have he0 := hE.cell.1; have he1 := hE.cell.2
      clear hb4 hD hE hR hd0 hd1
      go_wp2_with fail
      refine (DeedText_any k x _).mono ?_
      rintro e w5 ⟨rfl, hb5⟩
      have HB5 := Lib.hid (below_onto HB4.out hb5)
      obtain ⟨hD, hE, hR⟩ := HKD.out _ HB5.out
      have hf0 := hD.cell.1; have hf1 := hD.cell.2
      clear hb5 hD hE hR he0 he1
      go_wp2_with fail
      refine (copied_any _ xs L HDK.out _ (HDR.out.kept HB5.out)).mono ?_
      rintro e w6 ⟨v1, v2, rfl, hg6⟩
      obtain ⟨p1, e1, rfl⟩ := hg6.one
      obtain ⟨p2, e2, rfl⟩ := hg6.two
      obtain ⟨hD, hE, hR⟩ := HKD.out _ (below_onto HB5.out hg6.below)
      have hx0 := hR.cell.1; have hx1 := hR.cell.2; have hx2 := hR.frozen 0; have hx3 := hR.frozen 1
      have HR := Lib.hid hR
      have HG := Lib.hid (hg6.on (R := w.heap.size + 1 + 1) (below_onto HST.out.bel HB5.out) (by omega) (Nat.lt_of_lt_of_le HZ.out HB5.out.size))
      clear hg6 hD hE hR hf0 hf1
      go_wp2_with fail
      refine bodyPost_ret (results_desk rfl _ _ (w.heap.size + 1 + 1) ((HR.out.set0 (.slice p1 xs.length e1)).set1 (.slice p2 L.length e2)) rfl rfl (by kernel_rfl)) rfl ?_
      exact ⟨_, _, rfl, HG.out⟩
    | true =>
      have hem := deedT_empX hok
      have HOK := Lib.hid hok
      have hrg := dOk_iff.1 hok
      by_cases hk4 : k = 4
      · have hx0 : x = 0 := by omega
        subst hk4
        subst hx0
        have hb := dkB_back (xs := xs) (L := L) hdk
        have e2 : dkX xs L 4 0 = if L ≠ [] then L.getLastD [] else xs := by
          by_cases hL : L = []
          · have hn : dkB xs L 4 0 = false := by rw [hb]; exact decide_eq_false (fun h => h hL)
            rw [if_neg (fun h => h hL)]; exact (dk_no hn hdk).1
          · rw [if_pos hL]; exact (dk_back hdk hL).1
        have e3 : dkL xs L 4 0 = if L ≠ [] then L.dropLast else L := by
          by_cases hL : L = []
          · have hn : dkB xs L 4 0 = false := by rw [hb]; exact decide_eq_false (fun h => h hL)
            rw [if_neg (fun h => h hL)]; exact (dk_no hn hdk).2
          · rw [if_pos hL]; exact (dk_back hdk hL).2
        obtain ⟨ok, hokv⟩ : ∃ ok, dkB xs L 4 0 = ok := ⟨_, rfl⟩
        obtain ⟨ys, hys⟩ : ∃ ys, dkX xs L 4 0 = ys := ⟨_, rfl⟩
        obtain ⟨M, hM⟩ : ∃ M, dkL xs L 4 0 = M := ⟨_, rfl⟩
        have HBK := Lib.hid (fun (W : World) (hW : DeskR W (.agg #[.slice a xs.length c, .slice b L.length c2]) xs L) => (show Calls Tryz.prog 115 #[.agg #[.slice a xs.length c, .slice b L.length c2]] W (DoneD ok ys M W) from by
          have := back_any _ xs L hdk W hW
          rw [← hb, ← e2, ← e3, hokv, hys, hM] at this; exact this))
        rw [hokv, hys, hM]
        clear hb e2 e3 hokv hys hM hdk hok hrg
        go_enter Tryz.func54, Tryz.ntmps54
        go_wp2_with fail
        refine (DeskOk_any _ xs L _ HDR.out).mono ?_
        rintro e w4 ⟨rfl, hb4⟩
        rw [HDK.out]
        obtain ⟨hD, hE, hR⟩ := HKD.out _ hb4
        have HB4 := Lib.hid hb4
        have he0 := hE.cell.1; have he1 := hE.cell.2
        clear hb4 hD hE hR hd0 hd1
        go_wp2_with fail
        refine (DeedText_any 4 0 _).mono ?_
        rintro e w5 ⟨rfl, hb5⟩
        have HB5 := Lib.hid (below_onto HB4.out hb5)
        obtain ⟨hD, hE, hR⟩ := HKD.out _ HB5.out
        have hf0 := hD.cell.1; have hf1 := hD.cell.2; have hf2 := hE.cell.1
        clear hb5 hD hE hR he0 he1
        go_wp2_with fail
        refine (HBK.out _ (HDR.out.kept HB5.out)).mono ?_
        rintro e w6 ⟨v1, v2, rfl, hg6⟩
        obtain ⟨p1, e1, rfl⟩ := hg6.one
        obtain ⟨p2, e2, rfl⟩ := hg6.two
        obtain ⟨hD, hE, hR⟩ := HKD.out _ (below_onto HB5.out hg6.below)
        have hx0 := hR.cell.1; have hx1 := hR.cell.2; have hx2 := hR.frozen 0; have hx3 := hR.frozen 1
        have HR := Lib.hid hR
        have HG := Lib.hid (hg6.on (R := w.heap.size + 1 + 1) (below_onto HST.out.bel HB5.out) (by omega) (Nat.lt_of_lt_of_le HZ.out HB5.out.size))
        clear hg6 hD hE hR hf0 hf1 hf2
        go_wp2_with fail
        refine bodyPost_ret (results_desk rfl _ _ (w.heap.size + 1 + 1) ((HR.out.set0 (.slice p1 ys.length e1)).set1 (.slice p2 M.length e2)) rfl rfl (by kernel_rfl)) rfl ?_
        exact ⟨_, _, rfl, HG.out⟩
      · have hb := dkB_ch (x := x) hdk hk4
        have e2 : dkX xs L k x = if chB xs k x then mdL xs k x else xs := by
          cases hc : chB xs k x with
          | false => rw [hc] at hb; exact (dk_no hb hdk).1
          | true => exact (dk_ch hdk hk4 hc).1
        have e3 : dkL xs L k x = if chB xs k x then (L ++ [xs]).drop (L.length - 7) else L := by
          cases hc : chB xs k x with
          | false => rw [hc] at hb; exact (dk_no hb hdk).2
          | true => exact (dk_ch hdk hk4 hc).2
        have hk03 : 0 ≤ k ∧ k ≤ 3 := by omega
        have hkb : (k == 4) = false := by simpa using hk4
        obtain ⟨ok, hokv⟩ : ∃ ok, dkB xs L k x = ok := ⟨_, rfl⟩
        obtain ⟨ys, hys⟩ : ∃ ys, dkX xs L k x = ys := ⟨_, rfl⟩
        obtain ⟨M, hM⟩ : ∃ M, dkL xs L k x = M := ⟨_, rfl⟩
        have HBK := Lib.hid (fun (W : World) (hW : DeskR W (.agg #[.slice a xs.length c, .slice b L.length c2]) xs L) => (show Calls Tryz.prog 116 #[.agg #[.slice a xs.length c, .slice b L.length c2], .agg #[.int .i64 k, .int .i64 x]] W (DoneD ok ys M W) from by
          have := changed_any _ xs L k x hdk hk03 hok HX.out W hW
          rw [← e2, ← e3, ← hb, hokv, hys, hM] at this; exact this))
        rw [hokv, hys, hM]
        clear hb e2 e3 hokv hys hM hdk hok hrg hk4 hk03
        go_enter Tryz.func54, Tryz.ntmps54
        go_wp2_with fail
        refine (DeskOk_any _ xs L _ HDR.out).mono ?_
        rintro e w4 ⟨rfl, hb4⟩
        rw [HDK.out]
        obtain ⟨hD, hE, hR⟩ := HKD.out _ hb4
        have HB4 := Lib.hid hb4
        have he0 := hE.cell.1; have he1 := hE.cell.2
        clear hb4 hD hE hR hd0 hd1
        go_wp2_with fail
        refine (DeedText_any k x _).mono ?_
        rintro e w5 ⟨rfl, hb5⟩
        have HB5 := Lib.hid (below_onto HB4.out hb5)
        obtain ⟨hD, hE, hR⟩ := HKD.out _ HB5.out
        have hf0 := hD.cell.1; have hf1 := hD.cell.2; have hf2 := hE.cell.1; have hf3 := hE.cell.2
        clear hb5 hD hE hR he0 he1
        go_wp2_with fail
        refine (HBK.out _ (HDR.out.kept HB5.out)).mono ?_
        rintro e w6 ⟨v1, v2, rfl, hg6⟩
        obtain ⟨p1, e1, rfl⟩ := hg6.one
        obtain ⟨p2, e2, rfl⟩ := hg6.two
        obtain ⟨hD, hE, hR⟩ := HKD.out _ (below_onto HB5.out hg6.below)
        have hx0 := hR.cell.1; have hx1 := hR.cell.2; have hx2 := hR.frozen 0; have hx3 := hR.frozen 1
        have HR := Lib.hid hR
        have HG := Lib.hid (hg6.on (R := w.heap.size + 1 + 1) (below_onto HST.out.bel HB5.out) (by omega) (Nat.lt_of_lt_of_le HZ.out HB5.out.size))
        clear hg6 hD hE hR hf0 hf1 hf2 hf3
        go_wp2_with fail
        refine bodyPost_ret (results_desk rfl _ _ (w.heap.size + 1 + 1) ((HR.out.set0 (.slice p1 ys.length e1)).set1 (.slice p2 M.length e2)) rfl rfl (by kernel_rfl)) rfl ?_
        exact ⟨_, _, rfl, HG.out⟩
end Go.Proofs.YthaickihoagnmaaGreatDoor
namespace Go.Proofs.YthaickihoagnmaaGreatDoor
set_option linter.unusedVariables false
set_option linter.unusedSimpArgs false
open Go.RowKit Go.Maps
theorem cell_alX {w : World} {p : Addr} {v : Value} (o : Obj) (h : w.cell? p = some v) : (w.alloc o).cell? p = some v :=
  ((alloc_below w o).cell (World.block_lt_of_cell? w _ h)).trans h
theorem e7_of {w6 w7 wr : World} {O : Nat} {v1 v2 : Value} {rs : List Fr} (h : Blk2 w6 O 31 v1 v2) (hu : Upon (fun q => v2.ownBlock = some q) w6 w7) (ho : FamsO wr (O + 1) v2 rs) : Blk2 w7 O 31 v1 v2 :=
  (hu.block O h.lt (fun e => by have := (ho.fams.ltB O (.inl e)).1; omega)).trans h
set_option maxRecDepth 100000 in
set_option maxHeartbeats 3200000 in
theorem l12Copy_any (d : Value) (xs : List Int) (L : List (List Int)) (hd : deskB xs L = true) (w : World) (h : DeskR w d xs L) :
    Calls Tryz.prog 66 #[d] w (CopyO xs L w) := by
  obtain ⟨a, c, b, c2, rfl, hi, hn⟩ := h.parts
  obtain ⟨i0, hi0, hz0, hz1, hz2⟩ := info_parts Tryz.infoInt
  obtain ⟨hf, h8, hL⟩ := deskB_iff.1 hd
  have hlen := famL_len hf
  obtain ⟨rb, ro, rfl, hrl, hrr⟩ := hi.row hlen.1
  have q1 := alloc_below w (.cells #[.slice (some ⟨rb, ro, none⟩) xs.length c, .slice b L.length c2] 31)
  have q2 := alloc_below (w.alloc (.cells #[.slice (some ⟨rb, ro, none⟩) xs.length c, .slice b L.length c2] 31)) (.cells #[.slice none 0 0, .slice none 0 0] 31)
  have b1 := (Blk2.new w 31 (.slice (some ⟨rb, ro, none⟩) xs.length c) (.slice b L.length c2)).kept q2 (by rw [alloc_size]; omega)
  have b2 := (Blk2.new (w.alloc (.cells #[.slice (some ⟨rb, ro, none⟩) xs.length c, .slice b L.length c2] 31)) 31 (.slice none 0 0) (.slice none 0 0))
  have hz : ((w.alloc (.cells #[.slice (some ⟨rb, ro, none⟩) xs.length c, .slice b L.length c2] 31)).alloc (.cells #[.slice none 0 0, .slice none 0 0] 31)).heap.size = w.heap.size + 2 := by rw [alloc_size, alloc_size]
  rw [alloc_size] at b2
  have hq := below_onto q1 q2
  obtain ⟨n, hnn⟩ : ∃ n, L.length = n := ⟨_, rfl⟩
  rw [hnn] at b1 b2 hz hq h8 ⊢
  have hr1 := hrr.below hq hrl
  have HN := Lib.hid hn; have HF := Lib.hid hf; have HL := Lib.hid hL; have HNN := Lib.hid hnn
  clear h hi hn q1 q2 hd hf hL hnn hrr
  obtain ⟨W0, hW0⟩ : ∃ W0, (w.alloc (.cells #[.slice (some ⟨rb, ro, none⟩) xs.length c, .slice b n c2] 31)).alloc (.cells #[.slice none 0 0, .slice none 0 0] 31) = W0 := ⟨_, rfl⟩
  rw [hW0] at b1 b2 hz hq hr1
  have HW0 := Lib.hid hW0
  clear hW0
  have hrl0 : rb < W0.heap.size := by omega
  have HQ := Lib.hid hq; have HB1 := Lib.hid b1; have HB2 := Lib.hid b2; have HZ := Lib.hid hz
  have HMD := Lib.hid (OwnX.made W0 _ (Nat.le_refl W0.heap.size) 3 : OwnX (W0.alloc (.cells #[] 3)) W0.heap.size 3 (.slice (some ⟨W0.heap.size, 0, none⟩) 0 0) [])
  have HO : Hid ((W0.alloc (.cells #[] 3)).ownsRow W0.heap.size 3 1 (.slice (some ⟨W0.heap.size, 0, none⟩) 0 0) 0 []) := Lib.hid HMD.out
  have k1 := Lib.hid (rowV_cells (hr1.below (alloc_below W0 (.cells #[] 3)) hrl0))
  have k2 := Lib.hid (rowV_one (fun j => xs.getD j 0) xs.length)
  have k3 : Hid (0 + xs.length ≤ maxLen) := Lib.hid (by unfold maxLen; omega)
  have k4 : Hid ((0 + xs.length) * 8 ≤ 140737488355328) := Lib.hid (by omega)
  have k5 : Hid (W0.heap.size ≤ (W0.alloc (.cells #[] 3)).heap.size) := Lib.hid (by rw [alloc_size]; omega)
  have k6 : Hid ((rowV (fun j => xs.getD j 0) xs.length).length = xs.length * 1) := Lib.hid (by rw [rowV_len]; omega)
  have HAB := Lib.hid (alloc_below W0 (.cells #[] 3))
  have HW := Lib.hid (show (W0.alloc (.cells #[] 3)).cell? ⟨w.heap.size, 0, none⟩ = some (.slice (some ⟨rb, ro, none⟩) xs.length c) from (b1.kept (alloc_below W0 _) b1.lt).cell.1)
  clear hr1 hrl0 b1 b2 hz hq
  have hW0 := HW0.out
  have hc0 := HW.out
  go_enter Tryz.func66, Tryz.ntmps66
  go_wp2_with (at_builtin; refine wpList_append_own _ rfl (.tmp 5) (.tmp 7) 28 rfl W0.heap.size 3 i0 (.int .i64 0) 1 8 Tryz.underlying28 hi0 hz0 hz1 hz2 rfl (by decide) _ _ _ rfl HO.out ⟨rb, ro, none⟩ xs.length c (rowV (fun j => xs.getD j 0) xs.length) rfl k6.out k1.out k2.out k3.out k4.out k5.out ?_)
  intro v8 w8 hown8 hgrow8 _
  have hb8 : Below W0.heap.size W0 w8 := HAB.out.trans ((Below.refl W0.heap.size _).grown hgrow8 k5.out (fun q hq => (HO.out.lt q hq).1))
  have hown := OwnX.rowV hown8
  first | rw [famL_get2] at hown | rw [famL_get] at hown
  obtain ⟨g8, c8, rfl, hg1, hg2, _⟩ := hown.shape hlen.1
  have hal9 := alloc_below w8 (.cells #[.slice (some ⟨g8, 0, none⟩) xs.length c8, .slice none 0 0] 31)
  have HST : Hid (L12S xs L (.slice (some ⟨rb, ro, none⟩) xs.length c) (.slice b n c2) w w.heap.size w8.heap.size (.slice (some ⟨g8, 0, none⟩) xs.length c8) 0 (.slice none 0 0) [] (w8.alloc (.cells #[.slice (some ⟨g8, 0, none⟩) xs.length c8, .slice none 0 0] 31))) := Lib.hid (by
    have hz := HZ.out
    have hs8 := hb8.size
    refine ⟨(HB1.out.kept hb8 HB1.out.lt).kept hal9 (by omega), (HB2.out.kept hb8 HB2.out.lt).kept hal9 (by omega), Blk2.new _ _ _ _, by omega, rfl, (hown.kept hal9).base (by omega), fun g hg => ?_, FamsO.nil _ _, by simp, rfl, below_onto (below_onto HQ.out hb8) hal9⟩
    injection hg with hg
    have : g8 = g := hg
    omega)
  clear hown8 hgrow8 hb8 hown hg1 hg2 hal9 k1 k2 k3 k4 k5 k6 HO HAB HMD HW hW0 hc0 HW0 HB1 HB2 HZ HQ
  go_wp2_with fail
  have HD0 := Lib.hid HST.out.lt
  obtain ⟨O, hO⟩ : ∃ O, w8.heap.size = O := ⟨_, rfl⟩
  obtain ⟨D, hD⟩ : ∃ D, w.heap.size = D := ⟨_, rfl⟩
  rw [hO] at HST HD0 ⊢
  rw [hD] at HST HD0 ⊢
  have HDD := Lib.hid hD
  clear hO hD
  go_loopw [4] (fun i wr => ∃ (k : Nat) (v2 : Value) (rs : List Fr), k ≤ n ∧ i = .int .i64 k ∧ Hid (L12S xs L (.slice (some ⟨rb, ro, none⟩) xs.length c) (.slice b n c2) w D O (.slice (some ⟨g8, 0, none⟩) xs.length c8) k v2 rs wr)) (fun i _ => n - (intOf i).toNat)
  case atStart => exact ⟨0, _, [], Nat.zero_le _, rfl, HST⟩
  case round =>
    clear HST
    obtain ⟨k, v2, rs, hk, rfl, HS⟩ := hrel
    obtain ⟨va, vc, hv⟩ := HS.out.own.fams.seq.slice
    rw [List.length_map, HS.out.len] at hv
    subst hv
    have hc1 := HS.out.d.cell.2
    by_cases hlt : k < n
    · have hki : (k : Int) < (n : Int) := by omega
      have hk0 : (0 : Int) ≤ (k : Int) := by omega
      have hkl : k < L.length := by rw [HNN.out]; exact hlt
      obtain ⟨bk, o, a1, c1, rfl, hlc, hi, hcell⟩ := HN.out.at hkl
      have hfk := fam_at HL.out hkl
      have hrow1 := hi.row (famL_len hfk).1
      obtain ⟨q, p, rfl, hql, hrow⟩ := hrow1
      have hc2 := hcell wr HS.out.bel
      have HBD : Hid (Below wr.heap.size wr wr.drew) := Lib.hid (Below.refl _ _).drew
      have HRW : Hid (Row wr.drew q p _ _) := Lib.hid ((hrow.below HS.out.bel hql).below HBD.out (Nat.lt_of_lt_of_le hql HS.out.bel.size))
      have HQL : Hid (q < wr.drew.heap.size) := Lib.hid (Nat.lt_of_lt_of_le hql HS.out.bel.size)
      obtain ⟨l, hl⟩ : ∃ l, L.getD k [] = l := ⟨_, rfl⟩
      have HLL := Lib.hid hl; have HKL := Lib.hid hkl
      rw [hl] at hc2 HRW hfk
      have HL1 := Lib.hid (famL_len hfk).1
      have HL2 : Hid (l.length ≤ 1000) := Lib.hid (by have := (famL_len hfk).2; omega)
      have HLE := Lib.hid (show rs.length ≤ 1000 by rw [HS.out.len]; omega)
      have hco := HS.out.o.cell.2
      have ha1 := cell_alX (.cells #[] 3) hc1
      have ha2 := cell_alX (.cells #[] 3) hc2
      have ha3 := cell_alX (.cells #[] 3) hco
      have HOS : Hid (O + 1 ≤ wr.heap.size) := Lib.hid HS.out.o.lt
      clear hi hcell hl hkl hlc hrow hql hfk
      go_wp2_with fail
      go_region_law (first | ((refine step_cl (by rfl) (.tmp 19) (.tmp 24) (by rfl) l HL1.out HL2.out wr.drew q p c1 (by rfl) (by rfl) HRW.out HQL.out ?_; intro g6 c6 w6 ho6 hb6 hg6; have hB6 := below_onto HBD.out hb6; have e6 := HS.out.o.kept hB6 HS.out.o.lt; have hA6 := e6.cell.2; have hA7 := cell_alX (.cells #[.slice (some ⟨g6, 0, none⟩) l.length c6] 28) hA6; have HE6 := Lib.hid e6; have HO6 := Lib.hid (HS.out.own.kept hB6); have HY6 := Lib.hid (ho6.base HOS.out); have HB6 := Lib.hid hB6; have HN1 := Lib.hid (fun r hr e => by have h1 := (HS.out.own.fams.lt r hr).2; have h2 := hg6.1; have h3 : wr.drew.heap.size = wr.heap.size := rfl; omega : ∀ r ∈ rs, r.g ≠ g6); have HN2 : Hid ((Value.slice va k vc).ownBlock ≠ some g6) := Lib.hid (fun e => by have h1 := (HS.out.own.fams.seq.lt g6 e).2; have h2 := hg6.1; have h3 : wr.drew.heap.size = wr.heap.size := rfl; omega); have HS6 := Lib.hid (Nat.le_trans HOS.out hB6.size); clear ho6 hb6 hg6 hB6 e6)) | ((refine step_fr (by rfl) (.tmp 18) (.tmp 26) (by rfl) (O + 1) (.slice va k vc) rs ⟨g6, c6, l⟩ w6 (by rfl) (by rfl) HO6.out HLE.out HY6.out HN1.out HN2.out HS6.out ?_; intro g7 c7 w7 ho7 hb7 hu7; have hR7 := e7_of HE6.out hu7 HS.out.own; have hx1 := hR7.cell.2; have hx2 := hR7.frozen 1; have HX := Lib.hid (HS.out.step HKL.out HLL.out HB6.out hu7 ho7); clear ho7 hb7 hu7 hR7)))
      all_goals
        clear HE6 HO6 HY6 HN1 HN2 HS6 HB6 hA6 hA7 hx1 hx2 ha1 ha2 ha3 hc1 hc2 hco HRW HQL
        go_wp2_with fail
        go_roundw
        case rel => exact ⟨k + 1, _, _, by omega, by go_num, HX⟩
        case measure => simp [intOf]; omega
    · have hki : ¬ (k : Int) < (n : Int) := by omega
      have hR := HS.out.o
      have hc2 := hR.cell.1; have hc3 := hR.cell.2
      have hQ := HS.out.r
      have hc4 := hQ.cell.1; have hc5 := hQ.cell.2; have hf4 := hQ.frozen 0; have hf5 := hQ.frozen 1
      have HD9 := Lib.hid (HS.out.done (show L.length ≤ k by rw [HNN.out]; omega))
      have HQ9 := Lib.hid hQ
      have hkn : k = n := by omega
      subst hkn
      clear hR hQ
      go_wp2_with fail
      refine bodyPost_ret (results_desk1 rfl _ _ (D + 1) ((HQ9.out.set0 (.slice (some ⟨g8, 0, none⟩) xs.length c8)).set1 (.slice va k vc)) rfl (by kernel_rfl)) rfl ?_
      exact ⟨_, _, rfl, HD9.out⟩
end Go.Proofs.YthaickihoagnmaaGreatDoor
