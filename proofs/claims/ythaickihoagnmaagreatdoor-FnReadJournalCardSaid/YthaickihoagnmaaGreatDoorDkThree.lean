import Derived.Test.YthaickihoagnmaaGreatDoorDkTwo
import Derived.Test.YthaickihoagnmaaGreatDoorOwnH
import Derived.Test.YthaickihoagnmaaGreatDoorFamTwo
namespace Go.Proofs.YthaickihoagnmaaGreatDoor
set_option linter.unusedVariables false
set_option linter.unusedSimpArgs false
open Go.RowKit Go.Maps

/-! ### a family that is changed is another one -/
theorem filter_all {xs : List Int} {p : Int → Bool} (h : (xs.filter p).length = xs.length) : xs.filter p = xs :=
  List.filter_eq_self.2 (List.length_filter_eq_length_iff.1 h)
theorem done_all {xs : List Int} {F : Nat → Bool} (hf : famL (doneL xs.length (fun i => xs.getD i 0) F) = true) (h : (doneL xs.length (fun i => xs.getD i 0) F).length = xs.length) : doneL xs.length (fun i => xs.getD i 0) F = xs := by
  unfold doneL at hf h ⊢
  cases hr : roomB xs.length (fun i => xs.getD i 0) F with
  | false => rw [hr] at hf; exact absurd famL_nil (by rw [show famL [] = true from hf]; decide)
  | true =>
    rw [hr, if_pos rfl] at h
    rw [if_pos rfl]
    rw [with_len] at h
    have h0 : fam (newS F (memS xs.length (fun i => xs.getD i 0))) 16 = [] := List.eq_nil_of_length_eq_zero (by omega)
    unfold withL
    rw [h0, List.append_nil]
    exact famL_get
theorem md_same {xs : List Int} {k x : Int} (hk : 0 ≤ k ∧ k ≤ 3) (hf : famL (mdL xs k x) = true) (h : (mdL xs k x).length = xs.length) : mdL xs k x = xs := by
  have : k = 0 ∨ k = 1 ∨ k = 2 ∨ k = 3 := by omega
  rcases this with rfl | rfl | rfl | rfl
  · exact absurd h (by show (xs ++ [x]).length ≠ xs.length; rw [List.length_append, List.length_singleton]; omega)
  · exact filter_all h
  · exact done_all hf h
  · exact done_all hf h

/-! ### slices.Equal -/
theorem equal_same (a1 a2 : Option Addr) (xs : List Int) (c1 c2 : Nat) (h1 : 1 ≤ xs.length) (hn : xs.length ≤ 1000) (w : World) (hi1 : Ints w a1 xs.length (fun j => xs.getD j 0)) (hi2 : Ints w a2 xs.length (fun j => xs.getD j 0)) :
    Calls Tryz.prog 146 #[.slice a1 xs.length c1, .slice a2 xs.length c2] w fun e w' => e = .returned (.bool true) ∧ Drew w w' := by
  obtain ⟨b1, o1, rfl, _, hr1⟩ := hi1.row h1
  obtain ⟨b2, o2, rfl, _, hr2⟩ := hi2.row h1
  refine (equal_row b1 o1 c1 b2 o2 c2 xs.length _ _ hn w hr1 hr2).mono ?_
  rintro e w' ⟨rfl, hd⟩
  exact ⟨by rw [show sameB xs.length (fun j => xs.getD j 0) (fun j => xs.getD j 0) = true from decide_eq_true (fun i _ => rfl)], hd⟩
theorem equal_len (a1 a2 : Option Addr) (n1 n2 c1 c2 : Nat) (h : n1 ≠ n2) (w : World) :
    Calls Tryz.prog 146 #[.slice a1 n1 c1, .slice a2 n2 c2] w fun e w' => e = .returned (.bool false) ∧ Drew w w' := by
  have hne : ((n1 : Int) != (n2 : Int)) = true := by simp; omega
  clear h
  go_enter Tryz.func146, Tryz.ntmps146
  go_wp2_with fail
  go_ret
  exact ⟨rfl, Drew.refl _⟩

/-! ### what a deed makes of a family -/
theorem take_asks (E g : Nat) (k x : Int) (w : World) (hb : Blk2 w E 39 (.int .i64 k) (.int .i64 x)) (hne : E ≠ g) :
    Asks 171 E g (fun y => y == x) w := by
  intro W ho y hy
  have hbW : Blk2 W E 39 (.int .i64 k) (.int .i64 x) := (ho.block E hb.lt hne).trans hb
  have hc1 := hbW.cell.2
  clear hb ho hbW hne
  go_enter Tryz.func171, Tryz.ntmps171
  go_wp2_with fail
  go_ret
  exact ⟨rfl, rfl⟩

theorem evL_take (xs : List Int) (x : Int) : evL (fun y => y == x) xs = xs.filter (fun y => y != x) := rfl

set_option maxRecDepth 100000 in
set_option maxHeartbeats 3200000 in
theorem familyAfter_any (d : Value) (xs : List Int) (L : List (List Int)) (k x : Int) (hf : famL xs = true) (hk : 0 ≤ k ∧ k ≤ 3) (hx : I64 x) (w : World) (h : DeskR w d xs L) :
    Calls Tryz.prog 145 #[d, .agg #[.int .i64 k, .int .i64 x]] w (Gives 3 (mdL xs k x) w) := by
  obtain ⟨a, c, b, c2, rfl, hi, hn⟩ := h.parts
  obtain ⟨i0, hi0, hz0, hz1, hz2⟩ := info_parts Tryz.infoInt
  have hlen := famL_len hf
  have q1 := alloc_below w (.cells #[.slice a xs.length c, .slice b L.length c2] 31)
  have q2 := alloc_below (w.alloc (.cells #[.slice a xs.length c, .slice b L.length c2] 31)) (.cells #[.int .i64 k, .int .i64 x] 39)
  have b2 := (Blk2.new (w.alloc (.cells #[.slice a xs.length c, .slice b L.length c2] 31)) 39 (.int .i64 k) (.int .i64 x))
  rw [alloc_size] at b2
  have hz : ((w.alloc (.cells #[.slice a xs.length c, .slice b L.length c2] 31)).alloc (.cells #[.int .i64 k, .int .i64 x] 39)).heap.size = w.heap.size + 2 := by rw [alloc_size, alloc_size]
  have hq := below_onto q1 q2
  have HI := Lib.hid (hi.below hq (Nat.le_refl _))
  have HBL := Lib.hid b2; have HQ := Lib.hid hq; have HF := Lib.hid hf; have HX := Lib.hid hx; have HZ := Lib.hid hz
  have H64 := Lib.hid (famL_I64 hf)
  clear h hi hn q1 q2 hq b2 hf hx hz
  have hkk : k = 0 ∨ k = 1 ∨ k = 2 ∨ k = 3 := by omega
  clear hk
  rcases hkk with rfl | rfl | rfl | rfl
  · go_enter Tryz.func145, Tryz.ntmps145
    go_wp2_with fail
    refine (cloneFr_any a c xs HF.out _ HI.out).mono ?_
    rintro e w1 ⟨g, cg, rfl, hg1, hg2, hown, hb⟩
    have HB1 := Lib.hid (below_onto HQ.out hb)
    have HBL1 := Lib.hid (HBL.out.kept hb HBL.out.lt)
    rw [HZ.out] at hown hg1
    have HO1 : Hid (w1.ownsRow (w.heap.size + 2) 3 1 (.slice (some ⟨g, 0, none⟩) xs.length cg) xs.length (xs.map (Value.int .i64))) := Lib.hid hown
    have HS1 := Lib.hid (show w.heap.size + 2 ≤ w1.heap.size by have := HZ.out; have := hb.size; omega)
    clear hown hb hg1 hg2 HI HBL HQ
    have hc0 := HBL1.out.cell.1; have hc1 := HBL1.out.cell.2
    have k1 := Lib.hid (fun (j : Nat) (u : Value) (h : [Value.int .i64 x][j]? = some u) => cell_one_new w1 (.int .i64 x) 3 j u h)
    have k2 : Hid (∀ u ∈ [Value.int .i64 x], u.oneCell' = true) := Lib.hid (by intro u hu; simp at hu; subst hu; rfl)
    have k3 : Hid (xs.length + 1 ≤ maxLen) := Lib.hid (by unfold maxLen; omega)
    have k4 : Hid ((xs.length + 1) * 8 ≤ 140737488355328) := Lib.hid (by omega)
    have k5 : Hid (w.heap.size + 2 ≤ (w1.alloc (.cells #[.int .i64 x] 3)).heap.size) := Lib.hid (by rw [alloc_size]; have := HS1.out; omega)
    go_wp2_with (at_builtin; refine wpList_append_own _ rfl (.tmp 13) (.tmp 16) 28 rfl (w.heap.size + 2) 3 i0 (.int .i64 0) 1 8 Tryz.underlying28 hi0 hz0 hz1 hz2 rfl (by decide) _ _ _ rfl (HO1.out.alloc _) ⟨w1.heap.size, 0, none⟩ 1 1 [.int .i64 x] rfl rfl k1.out k2.out k3.out k4.out k5.out ?_)
    intro v5 w5 hown5 hgrow5 _
    have hb5 : Below w.heap.size w w5 := (HB1.out.alloc HB1.out.size _).grown hgrow5 (by rw [alloc_size]; have := HS1.out; omega) (fun q hq => by have := (HO1.out.lt q hq).1; omega)
    have HO5 := Lib.hid ((OwnX.snoc hown5).base (B' := w.heap.size) (by omega)); have HB5 := Lib.hid hb5
    clear hown5 hgrow5 hb5 k1 k2 k3 k4 k5 HO1 HB1 hc0 hc1
    go_wp2_with fail
    go_ret
    exact ⟨_, rfl, HO5.out, HB5.out⟩
  · go_enter Tryz.func145, Tryz.ntmps145
    go_wp2_with fail
    refine (cloneFr_any a c xs HF.out _ HI.out).mono ?_
    rintro e w1 ⟨g, cg, rfl, hg1, hg2, hown, hb⟩
    have HB1 := Lib.hid (below_onto HQ.out hb)
    have HBL1 := Lib.hid (HBL.out.kept hb HBL.out.lt)
    rw [HZ.out] at hown hg1
    have HO1 := Lib.hid hown
    have HS1 := Lib.hid (show w.heap.size + 2 ≤ w1.heap.size by have := HZ.out; have := hb.size; omega)
    clear hown hb hg1 hg2 HI HBL HQ
    have hc0 := HBL1.out.cell.1
    go_wp2_with fail
    refine (deleteFunc_any 171 (w.heap.size + 1) (enters_of (P := Tryz.prog) Tryz.func171 (by kernel_rfl) rfl) (fun y => y == x) (w.heap.size + 2) (.slice (some ⟨g, 0, none⟩) xs.length cg) xs (by omega) H64.out hlen.1 w1 HS1.out HO1.out (fun g' hg' _ => take_asks _ g' 1 x w1 HBL1.out (by omega))).mono ?_
    rintro e w5 ⟨v, rfl, hown5, hb5⟩
    rw [evL_take] at hown5
    have HO5 := Lib.hid (hown5.base (B' := w.heap.size) (by omega))
    have HB5 := Lib.hid (HB1.out.trans (hb5.mono (by omega)))
    clear hown5 hb5 hc0
    go_wp2_with fail
    go_ret
    exact ⟨_, rfl, HO5.out, HB5.out⟩
  · go_enter Tryz.func145, Tryz.ntmps145
    go_wp2_with fail
    refine (cloneFr_any a c xs HF.out _ HI.out).mono ?_
    rintro e w1 ⟨g, cg, rfl, hg1, hg2, hown, hb⟩
    have HB1 := Lib.hid (below_onto HQ.out hb)
    have HBL1 := Lib.hid (HBL.out.kept hb HBL.out.lt)
    obtain ⟨p1, p2, hp, hpi⟩ := hown.intsR (by omega) H64.out
    injection hp with e1 e2 e3
    subst e1; subst e3
    have HI1 := Lib.hid hpi.2
    clear hown hb hg1 hg2 HI HBL HQ hpi e2
    have hc0 := HBL1.out.cell.1
    go_wp2_with fail
    refine (WithPoints_any _ xs.length _ (fun j => xs.getD j 0) _ HI1.out).mono ?_
    rintro e w5 ⟨v, rfl, hown5, hb5⟩
    have HO5 := Lib.hid (hown5.base (B' := w.heap.size) HB1.out.size)
    have HB5 := Lib.hid (below_onto HB1.out hb5)
    clear hown5 hb5 hc0
    go_wp2_with fail
    go_ret
    exact ⟨_, rfl, HO5.out, HB5.out⟩
  · go_enter Tryz.func145, Tryz.ntmps145
    go_wp2_with fail
    refine (cloneFr_any a c xs HF.out _ HI.out).mono ?_
    rintro e w1 ⟨g, cg, rfl, hg1, hg2, hown, hb⟩
    have HB1 := Lib.hid (below_onto HQ.out hb)
    have HBL1 := Lib.hid (HBL.out.kept hb HBL.out.lt)
    obtain ⟨p1, p2, hp, hpi⟩ := hown.intsR (by omega) H64.out
    injection hp with e1 e2 e3
    subst e1; subst e3
    have HI1 := Lib.hid hpi.2
    clear hown hb hg1 hg2 HI HBL HQ hpi e2
    have hc0 := HBL1.out.cell.1
    go_wp2_with fail
    refine (WithSums_any _ xs.length _ (fun j => xs.getD j 0) _ HI1.out).mono ?_
    rintro e w5 ⟨v, rfl, hown5, hb5⟩
    have HO5 := Lib.hid (hown5.base (B' := w.heap.size) HB1.out.size)
    have HB5 := Lib.hid (below_onto HB1.out hb5)
    clear hown5 hb5 hc0
    go_wp2_with fail
    go_ret
    exact ⟨_, rfl, HO5.out, HB5.out⟩
end Go.Proofs.YthaickihoagnmaaGreatDoor

namespace Go.Proofs.YthaickihoagnmaaGreatDoor
set_option linter.unusedVariables false
set_option linter.unusedSimpArgs false
open Go.RowKit Go.Maps

theorem Nest.less {w : World} {b : Option Addr} {L : List (List Int)} (h : Nest w b L) : Nest w b L.dropLast := by
  obtain ⟨h1, h2⟩ := h
  refine ⟨by rw [List.length_dropLast]; omega, ?_⟩
  rcases h2 with h2 | ⟨bk, o, e, hl, hr⟩
  · exact .inl (by rw [List.length_dropLast]; omega)
  · by_cases h0 : L.dropLast.length = 0
    · exact .inl h0
    · refine .inr ⟨bk, o, e, hl, fun i hi => ?_⟩
      have hi' : i < L.length := by rw [List.length_dropLast] at hi; omega
      obtain ⟨a, c, q1, q2, q3⟩ := hr i hi'
      have e2 : L.dropLast[i] = L[i] := by rw [List.getElem_dropLast]
      rw [e2]
      exact ⟨a, c, q1, q2, q3⟩
theorem run_cut (g o n c m : Nat) (hm : m ≤ n) (hc : n ≤ c) (W : World) : (Instr.slice 29 (.slice (some ⟨g, o, none⟩) n c) none (some (.int .i64 m)) none).run Tryz.prog W = .ok (.slice (some ⟨g, o, none⟩) m c) W := by
  have hz : ∀ w, (Go.sizeOf 28).run Tryz.prog w = .ok 1 w := fun w => by kernel_rfl
  have h0 : (0 : Int) ≤ (m : Int) := by omega
  have hmc : ¬ c < m := by omega
  simp [hmc, Instr.slice, Instr.sliceBounds, Instr.sliceBound, run_underlying Tryz.underlying29, asIntOf, hz, h0, Addr.add_lit]

/-- a desk is handed back, or that nothing is done -/
def DoneD (ok : Bool) (xs : List Int) (L : List (List Int)) (w : World) (e : Ending) (w' : World) : Prop := ∃ v1 v2, e = .returned (.tuple #[.agg #[v1, v2], .bool ok]) ∧ GivesD xs L w w' v1 v2

set_option maxRecDepth 100000 in
set_option maxHeartbeats 3200000 in
theorem back_any (d : Value) (xs : List Int) (L : List (List Int)) (hd : deskB xs L = true) (w : World) (h : DeskR w d xs L) :
    Calls Tryz.prog 115 #[d] w (DoneD (decide (L ≠ [])) (if L ≠ [] then L.getLastD [] else xs) (if L ≠ [] then L.dropLast else L) w) := by
  have hdd := h
  obtain ⟨a, c, b, c2, rfl, hi, hn⟩ := h.parts
  obtain ⟨hf, h8, hL⟩ := deskB_iff.1 hd
  have q1 := alloc_below w (.cells #[.slice a xs.length c, .slice b L.length c2] 31)
  have q2 := alloc_below (w.alloc (.cells #[.slice a xs.length c, .slice b L.length c2] 31)) (.cells #[.slice none 0 0, .slice none 0 0] 31)
  have b1 := (Blk2.new w 31 (.slice a xs.length c) (.slice b L.length c2)).kept q2 (by rw [alloc_size]; omega)
  have b2 := (Blk2.new (w.alloc (.cells #[.slice a xs.length c, .slice b L.length c2] 31)) 31 (.slice none 0 0) (.slice none 0 0))
  have hz : ((w.alloc (.cells #[.slice a xs.length c, .slice b L.length c2] 31)).alloc (.cells #[.slice none 0 0, .slice none 0 0] 31)).heap.size = w.heap.size + 2 := by rw [alloc_size, alloc_size]
  rw [alloc_size] at b2
  have hq := below_onto q1 q2
  have HDR := Lib.hid (hdd.kept hq)
  by_cases hne : L = []
  · have hnn : ¬ (L ≠ []) := fun h => h hne
    rw [if_neg hnn, if_neg hnn, decide_eq_false hnn]
    clear hnn
    subst hne
    have HD := Lib.hid hd
    have HBL := Lib.hid b2; have HQ := Lib.hid hq; have HZ := Lib.hid hz
    have hc0 := b1.cell.1; have hc1 := b1.cell.2
    clear hdd hi hn q1 q2 hd hL b1 b2 hz hq h8
    go_enter Tryz.func115, Tryz.ntmps115
    go_wp2_with fail
    refine (copied_any _ xs [] HD.out _ HDR.out).mono ?_
    rintro e w3 ⟨v1, v2, rfl, hg⟩
    obtain ⟨rs, hdg, hrs, hb⟩ := hg
    rw [HZ.out] at hdg
    have hR := HBL.out.kept hb HBL.out.lt
    obtain ⟨p1, e1, rfl⟩ := hdg.now.slice
    obtain ⟨p2, e2, hp2⟩ := hdg.past.seq.slice
    have hrs0 : rs = [] := List.map_eq_nil_iff.1 hrs
    subst hrs0
    have hp3 : v2 = .slice p2 0 e2 := hp2
    subst hp3
    clear hp2
    have hx0 := hR.cell.1; have hx1 := hR.cell.2; have hx2 := hR.frozen 0; have hx3 := hR.frozen 1
    have HR := Lib.hid hR; have HDG := Lib.hid hdg; have HRS := Lib.hid hrs; have HB := Lib.hid hb
    clear hdg hrs hb hR
    go_wp2_with fail
    refine bodyPost_ret (results_desk rfl _ _ (w.heap.size + 1) ((HR.out.set0 _).set1 _) rfl rfl (by kernel_rfl)) rfl ?_
    exact ⟨_, _, rfl, [], ((HDG.out.put (p := ⟨w.heap.size + 1, 0, none⟩) (show w.heap.size + 1 < w.heap.size + 2 by omega)).put (p := ⟨w.heap.size + 1, 1, none⟩) (show w.heap.size + 1 < w.heap.size + 2 by omega)).base (B' := w.heap.size) (by omega), HRS.out,
      (((below_onto HQ.out HB.out).setCell (p := ⟨w.heap.size + 1, 0, none⟩) (show w.heap.size ≤ w.heap.size + 1 by omega) _).setCell (p := ⟨w.heap.size + 1, 1, none⟩) (show w.heap.size ≤ w.heap.size + 1 by omega) _)⟩
  · rw [if_pos hne, if_pos hne, decide_eq_true hne]
    have hl1 : 1 ≤ L.length := by cases L with | nil => exact absurd rfl hne | cons _ _ => simp
    obtain ⟨m, hm⟩ : ∃ m, L.length = m + 1 := ⟨L.length - 1, by omega⟩
    have hlast : L.getD m [] = L.getLastD [] := by rw [List.getLastD_eq_getLast?, List.getLast?_eq_getElem?, List.getD_eq_getElem?_getD, hm]; rfl
    have hdl : L.dropLast.length = m := by rw [List.length_dropLast, hm]; rfl
    have hkl : m < L.length := by omega
    obtain ⟨bk, o, a1, c1, rfl, hlc, hi1, hcell⟩ := hn.at hkl
    have hfl := fam_at hL hkl
    have hbkl : bk < w.heap.size := World.block_lt_of_cell? w _ (hcell w (Below.refl _ _))
    have hnb : ¬ bk = w.heap.size + 1 := by omega
    have hnc : ¬ w.heap.size + 1 = bk := by omega
    clear hbkl
    have hLd : ∀ l ∈ L.dropLast, famL l = true := fun l hl => hL l (List.dropLast_subset L hl)
    have hm8 : m ≤ 8 := by omega
    have hc2l : L.length ≤ c2 := by obtain ⟨_, _, _, _, e, _, h2, _⟩ := hdd.eq; cases e; exact h2
    rw [hm] at b1 b2 hz hq hc2l ⊢
    have HN1 := hn.less.kept hq
    obtain ⟨DL, hDL⟩ : ∃ DL, L.dropLast = DL := ⟨_, rfl⟩
    rw [hDL] at HN1 hdl hLd ⊢
    clear hDL
    have HI1 := hi1.below hq (Nat.le_refl _)
    rw [hlast] at HI1 hfl hcell
    obtain ⟨l, hl⟩ : ∃ l, L.getLastD [] = l := ⟨_, rfl⟩
    rw [hl] at HI1 hfl hcell ⊢
    have hcut := fun W => run_cut bk o (m + 1) c2 m (by omega) hc2l W
    obtain ⟨w2, hw2⟩ : ∃ w2, (w.alloc (.cells #[.slice a xs.length c, .slice (some ⟨bk, o, none⟩) (m + 1) c2] 31)).alloc (.cells #[.slice none 0 0, .slice none 0 0] 31) = w2 := ⟨_, rfl⟩
    rw [hw2] at b1 b2 hz hq HN1 HI1
    have HLF := Lib.hid hfl
    have HCP := Lib.hid (show ∀ W, Below w2.heap.size w2 W → Calls Tryz.prog 111 #[.slice (some ⟨bk, o, none⟩) m c2] W (GivesF DL W) from fun W hW => by
      have := copies_any (some ⟨bk, o, none⟩) DL c2 (by omega) hLd W (HN1.kept hW)
      rw [hdl] at this; exact this)
    have HKS := Lib.hid (show ∀ W, Below w2.heap.size w2 W → ((W.cell? ⟨w.heap.size, 0, none⟩ = some (.slice a xs.length c) ∧ W.cell? ⟨w.heap.size, 1, none⟩ = some (.slice (some ⟨bk, o, none⟩) (m + 1) c2)) ∧ W.cell? ⟨bk, o + m, none⟩ = some (.slice a1 l.length c1)) from
      fun W hW => ⟨(b1.kept hW b1.lt).cell, hcell W (below_onto hq hW)⟩)
    have HI := Lib.hid HI1; have HBL := Lib.hid b2; have HQ := Lib.hid hq; have HZ2 := Lib.hid hz; have HW2 := Lib.hid hw2
    have HB6 := Lib.hid (Below.refl w2.heap.size w2)
    have hg0 : (0 : Int) ≤ (m : Int) := by omega
    have hg1 : decide ((m : Int) < 0) = false := decide_eq_false (by omega)
    have hg2 : (m : Int) < (m : Int) + 1 := by omega
    have HK0 := HKS.out w2 (Below.refl _ _)
    obtain ⟨⟨hk0, hk1⟩, hk2⟩ := HK0
    clear hdd hi hn q1 q2 hd hL b1 b2 hz hq h8 hf hi1 hcell hlc hkl hm hlast hdl hl1 hne HDR HN1 HI1 hfl hLd hl hc2l
    go_enter Tryz.func115, Tryz.ntmps115
    go_wp2_with fail
    clear hk0 hk1 hk2 hw2
    go_region_held3 (fun W => (W.cell? ⟨w.heap.size, 0, none⟩ = some (.slice a xs.length c) ∧ W.cell? ⟨w.heap.size, 1, none⟩ = some (.slice (some ⟨bk, o, none⟩) (m + 1) c2)) ∧ W.cell? ⟨bk, o + m, none⟩ = some (.slice a1 l.length c1)) (first | exact HKS.out _ HB6.out | exact HKS.out _ HB6.out.drew | exact HKS.out _ (below_drewN HB6.out _) | go_keep)
      (first | (go_at_call 110; refine (cloneFr_any a1 c1 l HLF.out _ (HI.out.below ?_ (Nat.le_refl _))).mono ?_; (first | exact HB6.out | exact HB6.out.drew | exact below_drewN HB6.out _); rintro e w7 ⟨g7, c7, rfl, hg1, hg2, hown, hb7⟩; have HC := Lib.hid hown; have HCB := Lib.hid hb7; have HZ := Lib.hid (show Below w2.heap.size w2 w7 from (by first | exact below_onto HB6.out hb7 | exact below_onto HB6.out.drew hb7 | exact below_onto (below_drewN HB6.out _) hb7)); clear HB6; have HB6 := HZ; clear HZ hg1 hg2 hown hb7; have hR := HBL.out.kept HB6.out HBL.out.lt; have hx0 := hR.cell.1; have hx1 := hR.cell.2; have hx2 := hR.frozen 0; have hx3 := hR.frozen 1; clear hR) | (go_at_call 111; refine (HCP.out _ ?_).mono ?_; (first | exact HB6.out | exact HB6.out.drew | exact below_drewN HB6.out _); rintro e w8 ⟨p2, e2, rs, rfl, hfo, hrs, hb8⟩; have HR := Lib.hid hrs; have HFO := Lib.hid hfo; have HFB := Lib.hid hb8; have HZ := Lib.hid (show Below w2.heap.size w2 w8 from (by first | exact below_onto HB6.out hb8 | exact below_onto HB6.out.drew hb8 | exact below_onto (below_drewN HB6.out _) hb8)); clear HB6; have HB6 := HZ; clear HZ hfo hrs hb8; have hR := HBL.out.kept HB6.out HBL.out.lt; have hx0 := hR.cell.1; have hx1 := hR.cell.2; have hx2 := hR.frozen 0; have hx3 := hR.frozen 1; clear hR))
    all_goals
      have HD : Hid (DeskG w8 w2.heap.size (.slice (some ⟨g7, 0, none⟩) l.length c7) (.slice p2 DL.length e2) l rs) := Lib.hid (by first | exact deskA HC.out rfl HCB.out.size HFO.out HFB.out | exact deskB' HFO.out rfl HFB.out.size HC.out HCB.out)
      have HR2 := Lib.hid (HBL.out.kept HB6.out HBL.out.lt)
      clear HC HCB HFO HFB hx0 hx1 hx2 hx3
      go_wp2_with fail
      refine bodyPost_ret (results_desk rfl _ _ (w.heap.size + 1) ((HR2.out.set0 (.slice (some ⟨g7, 0, none⟩) l.length c7)).set1 (.slice p2 DL.length e2)) rfl rfl (by kernel_rfl)) rfl ?_
      exact ⟨_, _, rfl, rs, ((HD.out.put (p := ⟨w.heap.size + 1, 0, none⟩) (show w.heap.size + 1 < w2.heap.size by have := HZ2.out; omega)).put (p := ⟨w.heap.size + 1, 1, none⟩) (show w.heap.size + 1 < w2.heap.size by have := HZ2.out; omega)).base (by have := HZ2.out; omega), HR.out,
        (((below_onto HQ.out HB6.out).setCell (p := ⟨w.heap.size + 1, 0, none⟩) (show w.heap.size ≤ w.heap.size + 1 by omega) _).setCell (p := ⟨w.heap.size + 1, 1, none⟩) (show w.heap.size ≤ w.heap.size + 1 by omega) _)⟩
end Go.Proofs.YthaickihoagnmaaGreatDoor

namespace Go.Proofs.YthaickihoagnmaaGreatDoor
set_option linter.unusedVariables false
set_option linter.unusedSimpArgs false
open Go.RowKit Go.Maps

theorem step_frn {ops : Array Oper} {o : Oper} {a : Act} {K : Act → World → Prop} {Q : Exit → Act → World → Prop} {E : Prop} (hgd : o.guard = none) (s x : Operand)
    (ho : o.op = .call { callee := .builtin .append, args := #[s, x], argTypes := #[29, 29] })
    (B n : Nat) (v : Value) (rs : List Fr) (y : Fr) (w : World) (hs : a.eval s = v) (hx : a.eval x = .slice (some ⟨w.heap.size, 0, none⟩) 1 1) (h : FamsO w B v rs) (hn : rs.length = n) (hl : n ≤ 1000) (hy : OwnX w B 3 y.v y.xs)
    (h1 : ∀ r ∈ rs, r.g ≠ y.g) (h2 : v.ownBlock ≠ some y.g) (hB : B ≤ w.heap.size)
    (hk : ∀ g c w', FamsO w' B (.slice (some ⟨g, 0, none⟩) (n + 1) c) (rs ++ [y]) → Below B w w' → K (a.put o.dst (.slice (some ⟨g, 0, none⟩) (n + 1) c)) w') :
    if Region.wanted o (yielded ops a.tmps) = true then Oper.wp Tryz.prog o a (w.alloc (.cells #[y.v] 28)) K Q else E := by
  subst hn
  exact step_fr hgd s x ho B v rs y w hs hx h hl hy h1 h2 hB (fun g c w' q1 q2 _ => hk g c w' q1 q2)
/-- all is there for a family to be put behind families -/
structure Rdy (w : World) (B : Nat) (v : Value) (rs : List Fr) (y : Fr) : Prop where
  own : FamsO w B v rs
  row : OwnX w B 3 y.v y.xs
  ne1 : ∀ r ∈ rs, r.g ≠ y.g
  ne2 : v.ownBlock ≠ some y.g
  size : B ≤ w.heap.size
theorem rdyA {w7 w8 : World} {B S7 g c : Nat} {v2 : Value} {rs : List Fr} {xs : List Int} (h1 : FamsO w7 B v2 rs) (hs : S7 = w7.heap.size) (hB : B ≤ S7) (h2 : OwnX w8 S7 3 (.slice (some ⟨g, 0, none⟩) xs.length c) xs) (hb : Below w7.heap.size w7 w8) : Rdy w8 B v2 rs ⟨g, c, xs⟩ := by
  have hg := (h2.lt (g := g) rfl).1
  have hz := hb.size
  exact ⟨h1.kept hb, h2.base hB, fun r hr e => by have := (h1.fams.lt r hr).2; have e : r.g = g := e; omega, fun e => by have := (h1.fams.seq.lt g e).2; omega, by omega⟩
theorem rdyB {w7 w8 : World} {B S7 g c : Nat} {v2 : Value} {rs : List Fr} {xs : List Int} (h1 : OwnX w7 B 3 (.slice (some ⟨g, 0, none⟩) xs.length c) xs) (hs : S7 = w7.heap.size) (hB : B ≤ S7) (h2 : FamsO w8 S7 v2 rs) (hb : Below w7.heap.size w7 w8) : Rdy w8 B v2 rs ⟨g, c, xs⟩ := by
  have hg := (h1.lt (g := g) rfl).2
  have hz := hb.size
  exact ⟨h2.base hB, h1.kept hb, fun r hr e => by have := (h2.fams.lt r hr).1; have e : r.g = g := e; omega, fun e => by have := (h2.fams.seq.lt g e).1; omega, by omega⟩
theorem FamsO.cap {w : World} {B g m c : Nat} {rs : List Fr} (h : FamsO w B (.slice (some ⟨g, 0, none⟩) m c) rs) (h1 : 1 ≤ m) : m = rs.length ∧ m ≤ c ∧ c ≤ 9223372036854775807 := by
  rcases h.own.2 with ⟨h2, h3⟩ | ⟨g', cap, cur, hv, _, _, hc, hm, _⟩
  · cases h2
  · injection hv with e1 e2 e3
    unfold maxLen at hm
    omega
/-- without the first family -/
theorem FamsO.tail {w : World} {B g m c : Nat} {r : Fr} {rs : List Fr} (h : FamsO w B (.slice (some ⟨g, 0, none⟩) (m + 1) c) (r :: rs)) : Fams w B (.slice (some ⟨g, 1, none⟩) m (c - 1)) rs := by
  obtain ⟨h1, h2, h3⟩ := h.cap (by omega)
  have hm : m = rs.length := by simpa using h1
  have hf := h.fams
  refine ⟨?_, fun x hx => h.row x (List.mem_cons_of_mem r hx), ?_, fun x hx => h.apart x (List.mem_cons_of_mem r hx)⟩
  · rcases hf.seq with ⟨e, _⟩ | ⟨g', o, c', e, hc, hmx, hB, hl, hcell⟩
    · cases e
    · injection e with e1 e2 e3
      injection e1 with e1
      injection e1 with e4 e5
      subst e4; subst e5; subst e3
      refine .inr ⟨g, 1, c - 1, by rw [List.length_map, hm], by rw [List.length_map]; omega, by omega, hB, hl, fun i u hu => ?_⟩
      have := hcell (i + 1) u (by simpa using hu)
      rw [show 1 + i = 0 + (i + 1) by omega]; exact this
  · have := h.dis
    rw [List.map_cons, List.nodup_cons] at this
    exact this.2
theorem run_from1 (g m c : Nat) (hc : m + 1 ≤ c) (h1 : 1 ≤ m) (W : World) : (Instr.slice 29 (.slice (some ⟨g, 0, none⟩) (m + 1) c) (some (.int .i64 1)) none none).run Tryz.prog W = .ok (.slice (some ⟨g, 1, none⟩) m (c - 1)) W := by
  have hz : ∀ w, (Go.sizeOf 28).run Tryz.prog w = .ok 1 w := fun w => by kernel_rfl
  have hc' : ¬ c = 1 := by omega
  have hlt : ¬ ((m : Int) + 1 < 1) := by omega
  simp [hlt, Instr.slice, Instr.sliceBounds, Instr.sliceBound, run_underlying Tryz.underlying29, asIntOf, hz, hc', Addr.add_lit]
theorem run_from0 (g m c : Nat) (hc : m ≤ c) (h1 : 1 ≤ m) (W : World) : (Instr.slice 29 (.slice (some ⟨g, 0, none⟩) m c) (some (.int .i64 0)) none none).run Tryz.prog W = .ok (.slice (some ⟨g, 0, none⟩) m c) W := by
  have hz : ∀ w, (Go.sizeOf 28).run Tryz.prog w = .ok 1 w := fun w => by kernel_rfl
  have hc' : ¬ c = 0 := by omega
  simp [Instr.slice, Instr.sliceBounds, Instr.sliceBound, run_underlying Tryz.underlying29, asIntOf, hz, hc', Addr.add_lit]
theorem FB_tail {g c m : Nat} {r : Fr} {rs : List Fr} {q : Nat} (h : FB (.slice (some ⟨g, 1, none⟩) m (c - 1)) rs q) : FB (.slice (some ⟨g, 0, none⟩) (m + 1) c) (r :: rs) q := by
  rcases h with h | ⟨x, hx, e⟩
  · exact .inl h
  · exact .inr ⟨x, List.mem_cons_of_mem r hx, e⟩

/-- nothing is changed: the desk's copy -/
theorem changed_no {w w3 w5 : World} {R : Nat} {v1 v2 : Value} {xs : List Int} {L : List (List Int)} (hR : R = w.heap.size + 2) (hb : Below w.heap.size w w3) (hz : w.heap.size + 3 ≤ w3.heap.size) (hg : GivesD xs L w3 w5 v1 v2) :
    GivesD xs L w ((w5.setCell ⟨R, 0, none⟩ v1).setCell ⟨R, 1, none⟩ v2) v1 v2 := by
  obtain ⟨rs, hdg, hrs, hb2⟩ := hg
  exact ⟨rs, ((hdg.put (p := ⟨R, 0, none⟩) (show R < w3.heap.size by omega)).put (p := ⟨R, 1, none⟩) (show R < w3.heap.size by omega)).base (by omega), hrs,
    ((below_onto hb hb2).setCell (p := ⟨R, 0, none⟩) (show w.heap.size ≤ R by omega) _).setCell (p := ⟨R, 1, none⟩) (show w.heap.size ≤ R by omega) _⟩
/-- the family is changed -/
theorem changed_yes {w w5 w9 : World} {R : Nat} {v1 v2 : Value} {ys : List Int} {rs : List Fr} {L : List (List Int)} (hR : R = w.heap.size + 2) (hb : Below w.heap.size w w9) (hz : w.heap.size + 3 ≤ w5.heap.size) (ho : OwnX w5 (w.heap.size + 3) 3 v1 ys)
    (hb9 : Below w5.heap.size w5 w9) (hf : Fams w9 w5.heap.size v2 rs) (hrs : rs.map Fr.xs = L) :
    GivesD ys L w ((w9.setCell ⟨R, 0, none⟩ v1).setCell ⟨R, 1, none⟩ v2) v1 v2 := by
  have hdg : DeskG w9 (w.heap.size + 3) v1 v2 ys rs := ⟨ho.kept hb9, hf.base hz, fun g hg hq => by have q1 := (ho.lt hg).2; have q2 := (hf.ltB g hq).1; omega⟩
  exact ⟨rs, ((hdg.put (p := ⟨R, 0, none⟩) (show R < w.heap.size + 3 by omega)).put (p := ⟨R, 1, none⟩) (show R < w.heap.size + 3 by omega)).base (by omega), hrs,
    (hb.setCell (p := ⟨R, 0, none⟩) (show w.heap.size ≤ R by omega) _).setCell (p := ⟨R, 1, none⟩) (show w.heap.size ≤ R by omega) _⟩
end Go.Proofs.YthaickihoagnmaaGreatDoor
