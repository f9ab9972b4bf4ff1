import Derived.Test.YthaickihoagnmaaGreatDoorDkV
import Derived.Test.YthaickihoagnmaaGreatDoorTxOne
namespace Go.Proofs.YthaickihoagnmaaGreatDoor
set_option linter.unusedVariables false
set_option linter.unusedSimpArgs false
open Go.RowKit Go.Maps

/-- the blocks of a call on a desk and a deed -/
structure Start3 (w : World) (X Y : Value) (k x : Int) (w3 : World) : Prop where
  d : Blk2 w3 w.heap.size 31 X Y
  e : Blk2 w3 (w.heap.size + 1) 39 (.int .i64 k) (.int .i64 x)
  r : Blk2 w3 (w.heap.size + 1 + 1) 31 (.slice none 0 0) (.slice none 0 0)
  size : w3.heap.size = w.heap.size + 3
  bel : Below w.heap.size w w3
theorem start3 (w : World) (X Y : Value) (k x : Int) : Start3 w X Y k x (((w.alloc (.cells #[X, Y] 31)).alloc (.cells #[.int .i64 k, .int .i64 x] 39)).alloc (.cells #[.slice none 0 0, .slice none 0 0] 31)) := by
  have q1 := alloc_below w (.cells #[X, Y] 31)
  have q2 := alloc_below (w.alloc (.cells #[X, Y] 31)) (.cells #[.int .i64 k, .int .i64 x] 39)
  have q3 := alloc_below ((w.alloc (.cells #[X, Y] 31)).alloc (.cells #[.int .i64 k, .int .i64 x] 39)) (.cells #[.slice none 0 0, .slice none 0 0] 31)
  have b1' := (Blk2.new w 31 X Y).kept q2 (by rw [alloc_size]; omega)
  have b2' := (Blk2.new (w.alloc (.cells #[X, Y] 31)) 39 (.int .i64 k) (.int .i64 x))
  have b3 := Blk2.new ((w.alloc (.cells #[X, Y] 31)).alloc (.cells #[.int .i64 k, .int .i64 x] 39)) 31 (.slice none 0 0) (.slice none 0 0)
  have b2 := b2'.kept q3 b2'.lt
  rw [alloc_size] at b2
  rw [alloc_size, alloc_size] at b3
  exact ⟨b1'.kept q3 b1'.lt, b2, b3, by rw [alloc_size, alloc_size, alloc_size], below_onto q1 (below_onto q2 q3)⟩
theorem deedT_empX {k x : Int} {v : Bool} (h : dOk k x = v) : (deedT k x).toList.isEmpty = !v := by
  unfold deedT
  rw [bs_list]
  cases v with
  | false => rw [deedL_no h]; rfl
  | true =>
    cases hl : deedL k x with
    | nil => rw [deedL_iff.1 hl] at h; cases h
    | cons _ _ => rfl
/-- a desk that was handed back is handed on -/
theorem GivesD.on {xs : List Int} {L : List (List Int)} {w w5 w6 : World} {R : Nat} {v1 v2 : Value} (hg : GivesD xs L w5 w6 v1 v2) (hb : Below w.heap.size w w5) (hR : w.heap.size ≤ R) (hl : R < w5.heap.size) :
    GivesD xs L w ((w6.setCell ⟨R, 0, none⟩ v1).setCell ⟨R, 1, none⟩ v2) v1 v2 := by
  obtain ⟨rs, hdg, hrs, hb2⟩ := hg
  exact ⟨rs, ((hdg.put (p := ⟨R, 0, none⟩) hl).put (p := ⟨R, 1, none⟩) hl).base hb.size, hrs, ((below_onto hb hb2).setCell (p := ⟨R, 0, none⟩) hR _).setCell (p := ⟨R, 1, none⟩) hR _⟩

set_option maxRecDepth 100000 in
set_option maxHeartbeats 3200000 in
theorem DeskDo_any (d : Value) (xs : List Int) (L : List (List Int)) (k x : Int) (hx : I64 x) (w : World) (h : DeskR w d xs L) :
    Calls Tryz.prog 54 #[d, .agg #[.int .i64 k, .int .i64 x]] w (DoneD (dkB xs L k x) (dkX xs L k x) (dkL xs L k x) w) := by
  have hdd := h
  obtain ⟨a, c, b, c2, rfl, _⟩ := h.parts
  have hst := start3 w (.slice a xs.length c) (.slice b L.length c2) k x
  have hdr := hdd.kept hst.bel
  obtain ⟨w3, hw3⟩ : ∃ w3, ((w.alloc (.cells #[.slice a xs.length c, .slice b L.length c2] 31)).alloc (.cells #[.int .i64 k, .int .i64 x] 39)).alloc (.cells #[.slice none 0 0, .slice none 0 0] 31) = w3 := ⟨_, rfl⟩
  rw [hw3] at hst hdr
  have HST := Lib.hid hst; have HDR := Lib.hid hdr; have HX := Lib.hid hx
  have HKD := Lib.hid (show ∀ W, Below w3.heap.size w3 W → (Blk2 W w.heap.size 31 (.slice a xs.length c) (.slice b L.length c2) ∧ Blk2 W (w.heap.size + 1) 39 (.int .i64 k) (.int .i64 x) ∧ Blk2 W (w.heap.size + 1 + 1) 31 (.slice none 0 0) (.slice none 0 0)) from
    fun W hW => ⟨hst.d.kept hW hst.d.lt, hst.e.kept hW hst.e.lt, hst.r.kept hW hst.r.lt⟩)
  have HZ := Lib.hid (show w.heap.size + 1 + 1 < w3.heap.size by have := hst.size; omega)
  have hd0 := hst.d.cell.1; have hd1 := hst.d.cell.2
  clear h hdd hst hdr hx
  cases hdk : deskB xs L with
  | false =>
    obtain ⟨e1, e2, e3⟩ := dk_none (k := k) (x := x) hdk
    rw [e1, e2, e3]
    have HDK := Lib.hid hdk
    clear e1 e2 e3 hdk
    go_enter Tryz.func54, Tryz.ntmps54
    go_wp2_with fail
    refine (DeskOk_any _ xs L _ HDR.out).mono ?_
    rintro e w4 ⟨rfl, hb4⟩
    rw [HDK.out]
    obtain ⟨hD, hE, hR⟩ := HKD.out _ hb4
    have hx0 := hR.cell.1; have hx1 := hR.cell.2; have hx2 := hR.frozen 0; have hx3 := hR.frozen 1
    have HR := Lib.hid hR; have HB := Lib.hid (below_onto HST.out.bel hb4)
    clear hb4 hD hE hR hd0 hd1
    go_wp2_with fail
    refine bodyPost_ret (results_desk rfl _ _ (w.heap.size + 1 + 1) ((HR.out.set0 (.slice none 0 0)).set1 (.slice none 0 0)) rfl rfl (by kernel_rfl)) rfl ?_
    exact ⟨_, _, rfl, noDesk_gives ((HB.out.setCell (p := ⟨w.heap.size + 1 + 1, 0, none⟩) (show w.heap.size ≤ w.heap.size + 1 + 1 by omega) _).setCell (p := ⟨w.heap.size + 1 + 1, 1, none⟩) (show w.heap.size ≤ w.heap.size + 1 + 1 by omega) _)⟩
  | true =>
    have HDK := Lib.hid hdk
    cases hok : dOk k x with
    | false =>
      have hno := dkB_text (xs := xs) (L := L) hok
      obtain ⟨e2, e3⟩ := dk_no hno hdk
      rw [hno, e2, e3]
      have hem := deedT_empX hok
      have HOK := Lib.hid hok
      clear hno e2 e3 hdk hok
      go_enter Tryz.func54, Tryz.ntmps54
      go_wp2_with fail
      refine (DeskOk_any _ xs L _ HDR.out).mono ?_
      rintro e w4 ⟨rfl, hb4⟩
      rw [HDK.out]
      obtain ⟨hD, hE, hR⟩ := HKD.out _ hb4
      have HB4 := Lib.hid hb4
      have he0 := hE.cell.1; have he1 := hE.cell.2
      clear hb4 hD hE hR hd0 hd1
      go_wp2_with fail
      refine (DeedText_any k x _).mono ?_
      rintro e w5 ⟨rfl, hb5⟩
      have HB5 := Lib.hid (below_onto HB4.out hb5)
      obtain ⟨hD, hE, hR⟩ := HKD.out _ HB5.out
      have hf0 := hD.cell.1; have hf1 := hD.cell.2
      clear hb5 hD hE hR he0 he1
      go_wp2_with fail
      refine (copied_any _ xs L HDK.out _ (HDR.out.kept HB5.out)).mono ?_
      rintro e w6 ⟨v1, v2, rfl, hg6⟩
      obtain ⟨p1, e1, rfl⟩ := hg6.one
      obtain ⟨p2, e2, rfl⟩ := hg6.two
      obtain ⟨hD, hE, hR⟩ := HKD.out _ (below_onto HB5.out hg6.below)
      have hx0 := hR.cell.1; have hx1 := hR.cell.2; have hx2 := hR.frozen 0; have hx3 := hR.frozen 1
      have HR := Lib.hid hR
      have HG := Lib.hid (hg6.on (R := w.heap.size + 1 + 1) (below_onto HST.out.bel HB5.out) (by omega) (Nat.lt_of_lt_of_le HZ.out HB5.out.size))
      clear hg6 hD hE hR hf0 hf1
      go_wp2_with fail
      refine bodyPost_ret (results_desk rfl _ _ (w.heap.size + 1 + 1) ((HR.out.set0 (.slice p1 xs.length e1)).set1 (.slice p2 L.length e2)) rfl rfl (by kernel_rfl)) rfl ?_
      exact ⟨_, _, rfl, HG.out⟩
    | true =>
      have hem := deedT_empX hok
      have HOK := Lib.hid hok
      have hrg := dOk_iff.1 hok
      by_cases hk4 : k = 4
      · have hx0 : x = 0 := by omega
        subst hk4
        subst hx0
        have hb := dkB_back (xs := xs) (L := L) hdk
        have e2 : dkX xs L 4 0 = if L ≠ [] then L.getLastD [] else xs := by
          by_cases hL : L = []
          · have hn : dkB xs L 4 0 = false := by rw [hb]; exact decide_eq_false (fun h => h hL)
            rw [if_neg (fun h => h hL)]; exact (dk_no hn hdk).1
          · rw [if_pos hL]; exact (dk_back hdk hL).1
        have e3 : dkL xs L 4 0 = if L ≠ [] then L.dropLast else L := by
          by_cases hL : L = []
          · have hn : dkB xs L 4 0 = false := by rw [hb]; exact decide_eq_false (fun h => h hL)
            rw [if_neg (fun h => h hL)]; exact (dk_no hn hdk).2
          · rw [if_pos hL]; exact (dk_back hdk hL).2
        obtain ⟨ok, hokv⟩ : ∃ ok, dkB xs L 4 0 = ok := ⟨_, rfl⟩
        obtain ⟨ys, hys⟩ : ∃ ys, dkX xs L 4 0 = ys := ⟨_, rfl⟩
        obtain ⟨M, hM⟩ : ∃ M, dkL xs L 4 0 = M := ⟨_, rfl⟩
        have HBK := Lib.hid (fun (W : World) (hW : DeskR W (.agg #[.slice a xs.length c, .slice b L.length c2]) xs L) => (show Calls Tryz.prog 115 #[.agg #[.slice a xs.length c, .slice b L.length c2]] W (DoneD ok ys M W) from by
          have := back_any _ xs L hdk W hW
          rw [← hb, ← e2, ← e3, hokv, hys, hM] at this; exact this))
        rw [hokv, hys, hM]
        clear hb e2 e3 hokv hys hM hdk hok hrg
        go_enter Tryz.func54, Tryz.ntmps54
        go_wp2_with fail
        refine (DeskOk_any _ xs L _ HDR.out).mono ?_
        rintro e w4 ⟨rfl, hb4⟩
        rw [HDK.out]
        obtain ⟨hD, hE, hR⟩ := HKD.out _ hb4
        have HB4 := Lib.hid hb4
        have he0 := hE.cell.1; have he1 := hE.cell.2
        clear hb4 hD hE hR hd0 hd1
        go_wp2_with fail
        refine (DeedText_any 4 0 _).mono ?_
        rintro e w5 ⟨rfl, hb5⟩
        have HB5 := Lib.hid (below_onto HB4.out hb5)
        obtain ⟨hD, hE, hR⟩ := HKD.out _ HB5.out
        have hf0 := hD.cell.1; have hf1 := hD.cell.2; have hf2 := hE.cell.1
        clear hb5 hD hE hR he0 he1
        go_wp2_with fail
        refine (HBK.out _ (HDR.out.kept HB5.out)).mono ?_
        rintro e w6 ⟨v1, v2, rfl, hg6⟩
        obtain ⟨p1, e1, rfl⟩ := hg6.one
        obtain ⟨p2, e2, rfl⟩ := hg6.two
        obtain ⟨hD, hE, hR⟩ := HKD.out _ (below_onto HB5.out hg6.below)
        have hx0 := hR.cell.1; have hx1 := hR.cell.2; have hx2 := hR.frozen 0; have hx3 := hR.frozen 1
        have HR := Lib.hid hR
        have HG := Lib.hid (hg6.on (R := w.heap.size + 1 + 1) (below_onto HST.out.bel HB5.out) (by omega) (Nat.lt_of_lt_of_le HZ.out HB5.out.size))
        clear hg6 hD hE hR hf0 hf1 hf2
        go_wp2_with fail
        refine bodyPost_ret (results_desk rfl _ _ (w.heap.size + 1 + 1) ((HR.out.set0 (.slice p1 ys.length e1)).set1 (.slice p2 M.length e2)) rfl rfl (by kernel_rfl)) rfl ?_
        exact ⟨_, _, rfl, HG.out⟩
      · have hb := dkB_ch (x := x) hdk hk4
        have e2 : dkX xs L k x = if chB xs k x then mdL xs k x else xs := by
          cases hc : chB xs k x with
          | false => rw [hc] at hb; exact (dk_no hb hdk).1
          | true => exact (dk_ch hdk hk4 hc).1
        have e3 : dkL xs L k x = if chB xs k x then (L ++ [xs]).drop (L.length - 7) else L := by
          cases hc : chB xs k x with
          | false => rw [hc] at hb; exact (dk_no hb hdk).2
          | true => exact (dk_ch hdk hk4 hc).2
        have hk03 : 0 ≤ k ∧ k ≤ 3 := by omega
        have hkb : (k == 4) = false := by simpa using hk4
        obtain ⟨ok, hokv⟩ : ∃ ok, dkB xs L k x = ok := ⟨_, rfl⟩
        obtain ⟨ys, hys⟩ : ∃ ys, dkX xs L k x = ys := ⟨_, rfl⟩
        obtain ⟨M, hM⟩ : ∃ M, dkL xs L k x = M := ⟨_, rfl⟩
        have HBK := Lib.hid (fun (W : World) (hW : DeskR W (.agg #[.slice a xs.length c, .slice b L.length c2]) xs L) => (show Calls Tryz.prog 116 #[.agg #[.slice a xs.length c, .slice b L.length c2], .agg #[.int .i64 k, .int .i64 x]] W (DoneD ok ys M W) from by
          have := changed_any _ xs L k x hdk hk03 hok HX.out W hW
          rw [← e2, ← e3, ← hb, hokv, hys, hM] at this; exact this))
        rw [hokv, hys, hM]
        clear hb e2 e3 hokv hys hM hdk hok hrg hk4 hk03
        go_enter Tryz.func54, Tryz.ntmps54
        go_wp2_with fail
        refine (DeskOk_any _ xs L _ HDR.out).mono ?_
        rintro e w4 ⟨rfl, hb4⟩
        rw [HDK.out]
        obtain ⟨hD, hE, hR⟩ := HKD.out _ hb4
        have HB4 := Lib.hid hb4
        have he0 := hE.cell.1; have he1 := hE.cell.2
        clear hb4 hD hE hR hd0 hd1
        go_wp2_with fail
        refine (DeedText_any k x _).mono ?_
        rintro e w5 ⟨rfl, hb5⟩
        have HB5 := Lib.hid (below_onto HB4.out hb5)
        obtain ⟨hD, hE, hR⟩ := HKD.out _ HB5.out
        have hf0 := hD.cell.1; have hf1 := hD.cell.2; have hf2 := hE.cell.1; have hf3 := hE.cell.2
        clear hb5 hD hE hR he0 he1
        go_wp2_with fail
        refine (HBK.out _ (HDR.out.kept HB5.out)).mono ?_
        rintro e w6 ⟨v1, v2, rfl, hg6⟩
        obtain ⟨p1, e1, rfl⟩ := hg6.one
        obtain ⟨p2, e2, rfl⟩ := hg6.two
        obtain ⟨hD, hE, hR⟩ := HKD.out _ (below_onto HB5.out hg6.below)
        have hx0 := hR.cell.1; have hx1 := hR.cell.2; have hx2 := hR.frozen 0; have hx3 := hR.frozen 1
        have HR := Lib.hid hR
        have HG := Lib.hid (hg6.on (R := w.heap.size + 1 + 1) (below_onto HST.out.bel HB5.out) (by omega) (Nat.lt_of_lt_of_le HZ.out HB5.out.size))
        clear hg6 hD hE hR hf0 hf1 hf2 hf3
        go_wp2_with fail
        refine bodyPost_ret (results_desk rfl _ _ (w.heap.size + 1 + 1) ((HR.out.set0 (.slice p1 ys.length e1)).set1 (.slice p2 M.length e2)) rfl rfl (by kernel_rfl)) rfl ?_
        exact ⟨_, _, rfl, HG.out⟩
end Go.Proofs.YthaickihoagnmaaGreatDoor
