import Derived.Test.YtndcnfbncepihaaDkFive
import Derived.Test.YtndcnfbncepihaaTxT
namespace Go.Proofs.Ytndcnfbncepihaa
set_option linter.unusedVariables false
set_option linter.unusedSimpArgs false
open Go.RowKit Go.Maps

theorem blk2_dr {w : World} {B : Nat} {t : TypeId} {x y : Value} (h : Blk2 w B t x y) : Blk2 w.drew B t x y := h
theorem alloc_lt (w : World) (o : Obj) : w.heap.size < (w.alloc o).heap.size := by rw [alloc_size]; exact Nat.lt_succ_self _
theorem blk2_new_al {w w' : World} {t : TypeId} {x y : Value} (h : Below (w.alloc (.cells #[x, y] t)).heap.size (w.alloc (.cells #[x, y] t)) w') : Blk2 w' w.heap.size t x y := (Blk2.new w t x y).kept h (alloc_lt w _)
theorem blk2_new_dr {w w' : World} {t : TypeId} {x y : Value} (h : Below (w.alloc (.cells #[x, y] t)).drew.heap.size (w.alloc (.cells #[x, y] t)).drew w') : Blk2 w' w.heap.size t x y := (blk2_dr (Blk2.new w t x y)).kept h (alloc_lt w _)
theorem DeskV.base {W : World} {B B' T b : Nat} {v1 v2 : Value} {ys : List Int} {rs : List Fr} (h : DeskV W B T b v1 v2 ys rs) (hB : B' ≤ B) : DeskV W B' T b v1 v2 ys rs := ⟨h.blk, h.g.base hB, h.ne, Nat.le_trans hB h.lo, h.hi⟩
theorem DeskV.readX {W : World} {B T b : Nat} {v1 v2 : Value} {ys : List Int} {M : List (List Int)} {rs : List Fr} (h : DeskV W B T b v1 v2 ys rs) (hM : rs.map Fr.xs = M) (h1 : ys.length ≤ 9223372036854775807 ∧ I64s ys) (h2 : ∀ l ∈ M, l.length ≤ 9223372036854775807 ∧ I64s l) : DeskR W (.agg #[v1, v2]) ys M := by
  rw [← hM]
  exact h.g.read h1 (fun r hr => h2 r.xs (by rw [← hM]; exact List.mem_map.2 ⟨r, hr, rfl⟩))
theorem tot_big {rs : List Fr} {M : List (List Int)} (hM : rs.map Fr.xs = M) (h1 : M.length ≤ 1048576) (h2 : ∀ l ∈ M, l.length ≤ 1048576) : totF rs ≤ 1099511627776 := by
  have key : ∀ N : List (List Int), (∀ l ∈ N, l.length ≤ 1048576) → (N.map List.length).sum ≤ 1048576 * N.length := by
    intro N
    induction N with
    | nil => intro _; simp
    | cons l N ih =>
      intro hN
      have := ih (fun l hl => hN l (List.mem_cons_of_mem _ hl))
      have := hN l (List.mem_cons_self)
      rw [List.map_cons, List.sum_cons, List.length_cons]; omega
  have := key M h2
  unfold totF
  rw [hM]
  omega
/-- what a statement leaves that asks for a desk and lays it into a variable -/
def CutV (w : World) (ys : List Int) (M : List (List Int)) (ok : Bool) (s1 s2 : Value) (wx : World) : Prop :=
  ∃ b T v1 v2 rs, s1 = .pointer (some ⟨b, 0, none⟩) ∧ s2 = .bool ok ∧ DeskV wx w.heap.size T b v1 v2 ys rs ∧ rs.map Fr.xs = M ∧ T ≤ wx.heap.size ∧ Below w.heap.size w wx
theorem cutV_last {w w8 w9 : World} {v1 v2 : Value} {ys : List Int} {M : List (List Int)} {ok : Bool} (h : GivesD ys M w8 w9 v1 v2) (hb : Below w.heap.size w w9) (hs : w.heap.size ≤ w8.heap.size) :
    CutV w ys M ok (.pointer (some ⟨w9.heap.size, 0, none⟩)) (.bool ok) (w9.alloc (.cells #[v1, v2] 26)) := by
  obtain ⟨rs, hv, hr⟩ := deskV_of h
  exact ⟨_, _, _, _, rs, rfl, rfl, hv.base hs, hr, by rw [alloc_size]; exact Nat.le_refl _, hb.alloc hb.size _⟩
theorem cutV_set {w w8 w9 : World} {b : Nat} {v1 v2 : Value} {ys : List Int} {M : List (List Int)} {ok : Bool} (h : GivesD ys M w8 w9 v1 v2) (hz : Blk2 w9 b 26 (.slice none 0 0) (.slice none 0 0)) (hl : b < w8.heap.size) (hb : Below w.heap.size w w9) (hwb : w.heap.size ≤ b) :
    CutV w ys M ok (.pointer (some ⟨b, 0, none⟩)) (.bool ok) ((w9.setCell ⟨b, 0, none⟩ v1).setCell ⟨b, 1, none⟩ v2) := by
  obtain ⟨rs, hg, hrs, hb2⟩ := h
  have hsz : ((w9.setCell ⟨b, 0, none⟩ v1).setCell ⟨b, 1, none⟩ v2).heap.size = w9.heap.size := by simp [World.setCell]
  exact ⟨b, w9.heap.size, _, _, rs, rfl, rfl, ⟨(hz.set0 v1).set1 v2, ((hg.put (p := ⟨b, 0, none⟩) hl).put (p := ⟨b, 1, none⟩) hl).base (by omega), fun e => by have := (hg.ltB _ e).1; omega, hwb, hz.lt, fun q hq => (hg.ltB q hq).2⟩, hrs, by rw [hsz]; exact Nat.le_refl _, (hb.setCell (p := ⟨b, 0, none⟩) hwb _).setCell (p := ⟨b, 1, none⟩) hwb _⟩

set_option maxRecDepth 100000 in
set_option maxHeartbeats 12800000 in
theorem exactDeskDo (d : Value) (xs : List Int) (L : List (List Int)) (k x : Int) (hkx : I64 x) (w : World) (h : DeskR w d xs L) :
    Calls Try.prog 9 #[d, .agg #[.int .i64 k, .int .i64 x]] w (TrueEnd w) := by
  obtain ⟨a, c, b, c2, rfl, hi, hn⟩ := h.parts
  have HX := Lib.hid (ints_I64s hi); have HLI := Lib.hid hn.i64
  obtain ⟨ys, hys⟩ : ∃ ys, dkX xs L k x = ys := ⟨_, rfl⟩
  obtain ⟨M, hM⟩ : ∃ M, dkL xs L k x = M := ⟨_, rfl⟩
  obtain ⟨ok, hok⟩ : ∃ ok, dkB xs L k x = ok := ⟨_, rfl⟩
  have HOK := Lib.hid (show okD ys M by rw [← hys, ← hM]; exact okD_do xs L k x)
  have HYL := Lib.hid (show ys.length ≤ 1048576 by have := HOK.out.1.1; omega)
  have HML := Lib.hid (show M.length ≤ 1048576 by have := HOK.out.2.1; omega)
  have HMM := Lib.hid (show ∀ l ∈ M, l.length ≤ 1048576 from fun l hl => by have := (HOK.out.2.2 l hl).1; omega)
  have hyl : ys.length ≤ 7 := HOK.out.1.1
  have HSD := Lib.hid (fun (W : World) (d : Value) (hd : DeskR W d xs L) => (show Calls Try.prog 24 #[d, .agg #[.int .i64 k, .int .i64 x]] W (DoneP ok ys M W) from by
    have := specDeskDo_any d xs L k x hkx W hd
    rw [hys, hM, hok] at this; exact this))
  have HID := Lib.hid (fun (W : World) (d : Value) (hd : DeskR W d xs L) => (show Calls Try.prog 23 #[d, .agg #[.int .i64 k, .int .i64 x]] W (DoneD ok ys M W) from by
    have := DeskDo_any d xs L k x hkx W hd
    rw [hys, hM, hok] at this; exact this))
  have hfne : (ok != ok) = false := by simp
  have q1 := alloc_below w (.cells #[.slice a xs.length c, .slice b L.length c2] 48)
  have q2 := alloc_below (w.alloc (.cells #[.slice a xs.length c, .slice b L.length c2] 48)) (.cells #[.int .i64 k, .int .i64 x] 54)
  have b1 := (Blk2.new w 48 (.slice a xs.length c) (.slice b L.length c2)).kept q2 (by rw [alloc_size]; omega)
  have b2 := (Blk2.new (w.alloc (.cells #[.slice a xs.length c, .slice b L.length c2] 48)) 54 (.int .i64 k) (.int .i64 x))
  rw [alloc_size] at b2
  have hq := below_onto q1 q2
  have hdr := h.kept hq
  have hz : ((w.alloc (.cells #[.slice a xs.length c, .slice b L.length c2] 48)).alloc (.cells #[.int .i64 k, .int .i64 x] 54)).heap.size = w.heap.size + 2 := by rw [alloc_size, alloc_size]
  obtain ⟨w0, hw0⟩ : ∃ w0, (w.alloc (.cells #[.slice a xs.length c, .slice b L.length c2] 48)).alloc (.cells #[.int .i64 k, .int .i64 x] 54) = w0 := ⟨_, rfl⟩
  rw [hw0] at b1 b2 hq hdr hz
  have HDR := Lib.hid hdr; have HBL := Lib.hid b1; have HBE := Lib.hid b2; have HQ := Lib.hid hq; have HZ0 := Lib.hid hz
  have hd0 := b1.cell.1; have hd1 := b1.cell.2
  clear h hi hn hys hM hok q1 q2 b1 b2 hq hdr hz
  go_enter Try.func9, Try.ntmps9
  go_wp2_with fail
  clear hw0
  refine (szDesk_any _ xs L _ HDR.out).mono ?_
  rintro e w1 ⟨⟨r, rfl, hr⟩, hb⟩
  replace HBL := Lib.hid (HBL.out.kept hb HBL.out.lt); replace HBE := Lib.hid (HBE.out.kept hb HBE.out.lt)
  replace HDR := Lib.hid (HDR.out.kept hb); replace HQ := Lib.hid (below_onto HQ.out hb)
  have HZ1 := Lib.hid (show w.heap.size + 2 ≤ w1.heap.size by have := hb.size; have := HZ0.out; omega)
  clear hb hd0 hd1 HZ0
  rcases hr with rfl | ⟨m0, rfl, hx, hL, hl⟩
  · go_wp2_with fail
    go_ret
    exact ⟨rfl, HQ.out⟩
  have hge : decide ((m0 : Int) < 0) = false := decide_eq_false (by omega)
  have HL := Lib.hid hl
  clear hl
  have HD := HDR
  have hd0 := HBL.out.cell.1; have hd1 := HBL.out.cell.2; have he0 := HBE.out.cell.1; have he1 := HBE.out.cell.2
  have HKS := Lib.hid (show ∀ W, Below w1.heap.size w1 W → ((W.cell? ⟨w.heap.size, 0, none⟩ = some (.slice a xs.length c) ∧ W.cell? ⟨w.heap.size, 1, none⟩ = some (.slice b L.length c2)) ∧ (W.cell? ⟨w.heap.size + 1, 0, none⟩ = some (.int .i64 k) ∧ W.cell? ⟨w.heap.size + 1, 1, none⟩ = some (.int .i64 x))) from
    fun W hW => ⟨(HBL.out.kept hW HBL.out.lt).cell, (HBE.out.kept hW HBE.out.lt).cell⟩)
  go_upto_region 5 with fail
  go_cut [6, 7] (fun s1 s2 wx => CutV w1 ys M ok s1 s2 wx)
  case first =>
    have HB6 := Lib.hid (Below.refl w1.heap.size w1)
    go_region_held3 (fun W => ((W.cell? ⟨w.heap.size, 0, none⟩ = some (.slice a xs.length c) ∧ W.cell? ⟨w.heap.size, 1, none⟩ = some (.slice b L.length c2)) ∧ (W.cell? ⟨w.heap.size + 1, 0, none⟩ = some (.int .i64 k) ∧ W.cell? ⟨w.heap.size + 1, 1, none⟩ = some (.int .i64 x)))) (first | exact HKS.out _ HB6.out | exact HKS.out _ HB6.out.drew | exact HKS.out _ (HB6.out.alloc HB6.out.size _) | exact HKS.out _ (HB6.out.alloc HB6.out.size _).drew | exact HKS.out _ ((HB6.out.setCell (p := ⟨_, 0, none⟩) HS8.out _).setCell (p := ⟨_, 1, none⟩) HS8.out _) | exact HKS.out _ ((HB6.out.setCell (p := ⟨_, 0, none⟩) HS7.out _).setCell (p := ⟨_, 1, none⟩) HS7.out _) | exact HKS.out _ ((HB6.out.setCell (p := ⟨_, 0, none⟩) (Nat.le_refl _) _).setCell (p := ⟨_, 1, none⟩) (Nat.le_refl _) _) | go_keep)
      (first | (go_at_call 31; refine (toDesk_any _ xs L hx hL HL.out _ (HD.out.kept (by first | with_reducible exact HB6.out | with_reducible exact HB6.out.drew | with_reducible exact HB6.out.alloc HB6.out.size _ | with_reducible exact (HB6.out.alloc HB6.out.size _).drew))).mono ?_; rintro e w7 ⟨v1, v2, rfl, hg⟩; obtain ⟨hr7, hb7, ⟨y1, y2, rfl⟩, ⟨y3, y4, rfl⟩⟩ := hg.read HX.out HLI.out; have HR7 := Lib.hid hr7; (try (have HZB : Hid (Blk2 w7 w1.heap.size 26 (.slice none 0 0) (.slice none 0 0)) := Lib.hid (by with_reducible exact blk2_new_dr hb7))); have HZ := Lib.hid (below_onto (show Below w1.heap.size w1 _ from (by first | with_reducible exact HB6.out | with_reducible exact HB6.out.drew | with_reducible exact HB6.out.alloc HB6.out.size _ | with_reducible exact (HB6.out.alloc HB6.out.size _).drew)) hb7); clear HB6; have HB6 := HZ; clear HZ; have HS7 := Lib.hid HB6.out.size; clear hg hb7 hr7) | (go_at_call 38; refine (toDeed_any k x _).mono ?_; rintro e w8 ⟨rfl, hb8⟩; have hq8 : Below w7.heap.size w7 w8 := (by first | with_reducible exact hb8 | with_reducible exact below_onto (alloc_below w7 _) hb8); have HR8 := Lib.hid (HR7.out.kept hq8); (first | (replace HZB := Lib.hid (HZB.out.kept hq8 HZB.out.lt)) | (have HZB : Hid (Blk2 w8 w7.heap.size 26 (.slice none 0 0) (.slice none 0 0)) := Lib.hid (by with_reducible exact blk2_new_al hb8)) | skip); have HZ := Lib.hid (below_onto (show Below w1.heap.size w1 _ from (by first | with_reducible exact HB6.out | with_reducible exact HB6.out.drew | with_reducible exact HB6.out.alloc HB6.out.size _ | with_reducible exact (HB6.out.alloc HB6.out.size _).drew)) hb8); clear HB6; have HB6 := HZ; clear HZ; have HS8 := Lib.hid HB6.out.size; clear hb8 hq8) | (go_at_call 24; refine (HSD.out _ _ (by first | with_reducible exact HR8.out | with_reducible exact HR8.out.kept (alloc_below w8 _))).mono ?_; rintro e w9 ⟨v3, v4, rfl, hp⟩; have hg9 := hp.gives; obtain ⟨z1, z2, rfl⟩ := hg9.one; obtain ⟨z3, z4, rfl⟩ := hg9.two; (first | (have HZL := Lib.hid HZB.out.lt; replace HZB := Lib.hid (HZB.out.kept hg9.below HZB.out.lt)) | (have HZL := Lib.hid (alloc_lt w8 (.cells #[.slice none 0 0, .slice none 0 0] 26)); have HZB : Hid (Blk2 w9 w8.heap.size 26 (.slice none 0 0) (.slice none 0 0)) := Lib.hid (by with_reducible exact blk2_new_al hg9.below)) | skip); (try (have hx0 := HZB.out.cell.1; have hx1 := HZB.out.cell.2; have hx2 := HZB.out.frozen 0; have hx3 := HZB.out.frozen 1)); have HG9 := Lib.hid hg9; have HZ := Lib.hid (below_onto (show Below w1.heap.size w1 _ from (by first | with_reducible exact HB6.out | with_reducible exact HB6.out.drew | with_reducible exact HB6.out.alloc HB6.out.size _ | with_reducible exact (HB6.out.alloc HB6.out.size _).drew)) hg9.below); clear HB6; have HB6 := HZ; clear HZ; clear hp hg9))
    all_goals
      go_wp2_with fail
      go_meet
      first
        | exact cutV_last HG9.out HB6.out (by first | exact HS8.out | exact HB6.out.size)
        | exact cutV_set HG9.out HZB.out HZL.out HB6.out (by first | exact Nat.le_refl _ | exact HS7.out | exact HS8.out)
  case rest =>
  obtain ⟨b0, T0, v01, v02, r0, rfl, rfl, hv0, hr0, ht0, hb0⟩ := hcut
  obtain ⟨p1, e1, rfl⟩ := hv0.g.now.slice
  obtain ⟨p2, e2, hp2⟩ := hv0.g.past.seq.slice
  have hrl0 : (r0.map Fr.v).length = M.length := by rw [← hr0, List.length_map, List.length_map]
  rw [hrl0] at hp2
  subst hp2
  have HV5 := Lib.hid hv0; have HR0 := Lib.hid hr0; have HT0 := Lib.hid ht0
  have HB5 := Lib.hid hb0
  have HWB := Lib.hid (Nat.le_refl w1.heap.size)
  clear hv0 hr0 ht0 hb0 hrl0 hd0 hd1 he0 he1 HKS
  have hd0 := (HBL.out.kept HB5.out HBL.out.lt).cell.1; have hd1 := (HBL.out.kept HB5.out HBL.out.lt).cell.2
  go_wp2_with fail
  refine (toDesk_any _ xs L hx hL HL.out _ (HD.out.kept HB5.out)).mono ?_
  rintro e w2 ⟨v1, v2, rfl, hg⟩
  obtain ⟨f1, f2, rfl⟩ := hg.one
  obtain ⟨f3, f4, rfl⟩ := hg.two
  obtain ⟨rx, hvx, hrx⟩ := deskV_of hg
  have hal := alloc_below w2 (.cells #[.slice f1 xs.length f2, .slice f3 L.length f4] 26)
  have hb := below_onto hg.below hal
  replace HV5 := Lib.hid (HV5.out.kept hb); replace HB5 := Lib.hid (below_onto HB5.out hb)
  have HTX := Lib.hid (show T0 ≤ wc.heap.size ∧ w2.heap.size + 1 ≤ (w2.alloc (.cells #[.slice f1 xs.length f2, .slice f3 L.length f4] 26)).heap.size from ⟨HT0.out, by rw [alloc_size]; exact Nat.le_refl _⟩)
  obtain ⟨w3, hw3⟩ : ∃ w3, w2.alloc (.cells #[.slice f1 xs.length f2, .slice f3 L.length f4] 26) = w3 := ⟨_, rfl⟩
  obtain ⟨bx, hbx⟩ : ∃ bx, w2.heap.size = bx := ⟨_, rfl⟩
  obtain ⟨Bx, hBx⟩ : ∃ Bx, wc.heap.size = Bx := ⟨_, rfl⟩
  rw [hw3, hbx, hBx] at hvx
  rw [hw3, hbx, hBx] at HTX
  rw [hw3] at HV5 HB5
  have HXV := Lib.hid hvx; have HRX := Lib.hid hrx
  have HXR := Lib.hid (hvx.readX hrx HX.out HLI.out)
  clear hg hvx hrx hal hb hBx hd0 hd1 HT0
  have hd0 := HXV.out.blk.cell.1; have hd1 := HXV.out.blk.cell.2; have he0 := (HBE.out.kept HB5.out HBE.out.lt).cell.1; have he1 := (HBE.out.kept HB5.out HBE.out.lt).cell.2
  have HKS := Lib.hid (show ∀ W, Below w3.heap.size w3 W → ((W.cell? ⟨bx, 0, none⟩ = some (.slice f1 xs.length f2) ∧ W.cell? ⟨bx, 1, none⟩ = some (.slice f3 L.length f4)) ∧ (W.cell? ⟨w.heap.size + 1, 0, none⟩ = some (.int .i64 k) ∧ W.cell? ⟨w.heap.size + 1, 1, none⟩ = some (.int .i64 x))) from
    fun W hW => ⟨(HXV.out.kept hW).blk.cell, (HBE.out.kept (below_onto HB5.out hW) HBE.out.lt).cell⟩)
  go_upto_region 7 with fail
  go_cut [9, 10] (fun s1 s2 wx => CutV w3 ys M ok s1 s2 wx)
  case first =>
    have HB6 := Lib.hid (Below.refl w3.heap.size w3)
    go_region_held3 (fun W => ((W.cell? ⟨bx, 0, none⟩ = some (.slice f1 xs.length f2) ∧ W.cell? ⟨bx, 1, none⟩ = some (.slice f3 L.length f4)) ∧ (W.cell? ⟨w.heap.size + 1, 0, none⟩ = some (.int .i64 k) ∧ W.cell? ⟨w.heap.size + 1, 1, none⟩ = some (.int .i64 x)))) (first | exact HKS.out _ HB6.out | exact HKS.out _ HB6.out.drew | exact HKS.out _ (HB6.out.alloc HB6.out.size _) | exact HKS.out _ (HB6.out.alloc HB6.out.size _).drew | exact HKS.out _ ((HB6.out.setCell (p := ⟨_, 0, none⟩) HS8.out _).setCell (p := ⟨_, 1, none⟩) HS8.out _) | exact HKS.out _ ((HB6.out.setCell (p := ⟨_, 0, none⟩) HS7.out _).setCell (p := ⟨_, 1, none⟩) HS7.out _) | exact HKS.out _ ((HB6.out.setCell (p := ⟨_, 0, none⟩) (Nat.le_refl _) _).setCell (p := ⟨_, 1, none⟩) (Nat.le_refl _) _) | go_keep)
      (first | (go_at_call 38; refine (toDeed_any k x _).mono ?_; rintro e w8 ⟨rfl, hb8⟩; (try (have HZB : Hid (Blk2 w8 w3.heap.size 26 (.slice none 0 0) (.slice none 0 0)) := Lib.hid (by with_reducible exact blk2_new_dr hb8))); have HR8 := Lib.hid (HXR.out.kept (show Below w3.heap.size w3 w8 from below_onto (by first | with_reducible exact HB6.out | with_reducible exact HB6.out.drew | with_reducible exact HB6.out.alloc HB6.out.size _ | with_reducible exact (HB6.out.alloc HB6.out.size _).drew) hb8)); have HZ := Lib.hid (below_onto (show Below w3.heap.size w3 _ from (by first | with_reducible exact HB6.out | with_reducible exact HB6.out.drew | with_reducible exact HB6.out.alloc HB6.out.size _ | with_reducible exact (HB6.out.alloc HB6.out.size _).drew)) hb8); clear HB6; have HB6 := HZ; clear HZ; have HS8 := Lib.hid HB6.out.size; clear hb8) | (go_at_call 23; refine (HID.out _ _ (by first | with_reducible exact HR8.out | with_reducible exact HR8.out.kept (alloc_below w8 _))).mono ?_; rintro e w9 ⟨v3, v4, rfl, hp⟩; have hg9 := hp; obtain ⟨z1, z2, rfl⟩ := hg9.one; obtain ⟨z3, z4, rfl⟩ := hg9.two; (first | (have HZL := Lib.hid HZB.out.lt; replace HZB := Lib.hid (HZB.out.kept hg9.below HZB.out.lt)) | (have HZL := Lib.hid (alloc_lt w8 (.cells #[.slice none 0 0, .slice none 0 0] 26)); have HZB : Hid (Blk2 w9 w8.heap.size 26 (.slice none 0 0) (.slice none 0 0)) := Lib.hid (by with_reducible exact blk2_new_al hg9.below)) | skip); (try (have hx0 := HZB.out.cell.1; have hx1 := HZB.out.cell.2; have hx2 := HZB.out.frozen 0; have hx3 := HZB.out.frozen 1)); have HG9 := Lib.hid hg9; have HZ := Lib.hid (below_onto (show Below w3.heap.size w3 _ from (by first | with_reducible exact HB6.out | with_reducible exact HB6.out.drew | with_reducible exact HB6.out.alloc HB6.out.size _ | with_reducible exact (HB6.out.alloc HB6.out.size _).drew)) hg9.below); clear HB6; have HB6 := HZ; clear HZ; clear hp hg9))
    all_goals
      go_wp2_with fail
      go_meet
      first
        | exact cutV_last HG9.out HB6.out (by first | exact HS8.out | exact HB6.out.size)
        | exact cutV_set HG9.out HZB.out HZL.out HB6.out (by first | exact Nat.le_refl _ | exact HS7.out | exact HS8.out)
  case rest =>
  clear hw3 hbx
  rename_i wc2
  obtain ⟨b1, T1, v11, v12, r1, rfl, rfl, hv1, hr1, ht1, hb1⟩ := hcut
  obtain ⟨q1, g1, rfl⟩ := hv1.g.now.slice
  obtain ⟨q2, g2, hp2⟩ := hv1.g.past.seq.slice
  have hrl1 : (r1.map Fr.v).length = M.length := by rw [← hr1, List.length_map, List.length_map]
  rw [hrl1] at hp2
  subst hp2
  replace HV5 := Lib.hid (HV5.out.kept hb1); replace HB5 := Lib.hid (below_onto HB5.out hb1); replace HXV := Lib.hid (HXV.out.kept hb1)
  have HTG := Lib.hid HTX.out.2
  obtain ⟨B1, hB1⟩ : ∃ B1, w3.heap.size = B1 := ⟨_, rfl⟩
  rw [hB1] at hv1 HTG
  have HG := Lib.hid hv1; have HR1 := Lib.hid hr1; have HT1 := Lib.hid ht1
  clear hv1 hr1 ht1 hb1 hrl1 hd0 hd1 he0 he1 HKS hB1 HXR
  have hc0 := HV5.out.blk.cell.1; have hc1 := HV5.out.blk.cell.2; have hd0 := HG.out.blk.cell.1; have hd1 := HG.out.blk.cell.2
  go_wp2_with fail
  refine (eqDesk_any _ _ ys M HYL.out HML.out HMM.out _ (HG.out.read HR1.out HOK.out) (HV5.out.read HR0.out HOK.out)).mono ?_
  rintro e w5 ⟨rfl, hb⟩
  replace HV5 := Lib.hid (HV5.out.kept hb); replace HG := Lib.hid (HG.out.kept hb); replace HXV := Lib.hid (HXV.out.kept hb); replace HB5 := Lib.hid (below_onto HB5.out hb)
  clear hb hc0 hc1 hd0 hd1
  have HXR := Lib.hid (HXV.out.readX HRX.out HX.out HLI.out)
  have HB6 := Lib.hid (Below.refl w5.heap.size w5)
  have HKS := Lib.hid (show ∀ W, Below w5.heap.size w5 W → ((W.cell? ⟨bx, 0, none⟩ = some (.slice f1 xs.length f2) ∧ W.cell? ⟨bx, 1, none⟩ = some (.slice f3 L.length f4)) ∧ (W.cell? ⟨w.heap.size, 0, none⟩ = some (.slice a xs.length c) ∧ W.cell? ⟨w.heap.size, 1, none⟩ = some (.slice b L.length c2))) from
    fun W hW => ⟨(HXV.out.kept hW).blk.cell, (HBL.out.kept (below_onto HB5.out hW) HBL.out.lt).cell⟩)
  go_wp2_with fail
  go_region_held3 (fun W => ((W.cell? ⟨bx, 0, none⟩ = some (.slice f1 xs.length f2) ∧ W.cell? ⟨bx, 1, none⟩ = some (.slice f3 L.length f4)) ∧ (W.cell? ⟨w.heap.size, 0, none⟩ = some (.slice a xs.length c) ∧ W.cell? ⟨w.heap.size, 1, none⟩ = some (.slice b L.length c2)))) (first | exact HKS.out _ HB6.out | exact HKS.out _ HB6.out.drew | exact HKS.out _ (below_drewN HB6.out _) | go_keep)
    (first | (go_at_call 31; refine (toDesk_any _ xs L hx hL HL.out _ (HD.out.kept (below_onto HB5.out (by first | exact HB6.out | exact HB6.out.drew | exact below_drewN HB6.out _)))).mono ?_; rintro e w7 ⟨v1, v2, rfl, hg⟩; obtain ⟨hr7, hb7, ⟨y1, y2, rfl⟩, ⟨y3, y4, rfl⟩⟩ := hg.read HX.out HLI.out; have HR7 := Lib.hid hr7; have HZ := Lib.hid (show Below w5.heap.size w5 w7 from (by first | exact hb7 | exact below_onto HB6.out.drew hb7 | exact below_onto (below_drewN HB6.out _) hb7)); clear HB6; have HB6 := HZ; clear HZ hg hb7 hr7) | (go_at_call 32; refine (eqDesk_any _ _ xs L hx hL HL.out _ (HXR.out.kept HB6.out) HR7.out).mono ?_; rintro e w8 ⟨rfl, hb8⟩; have HZ := Lib.hid (HB6.out.trans (hb8.mono HB6.out.size)); clear HB6; have HB6 := HZ; clear HZ hb8))
  replace HV5 := Lib.hid (HV5.out.kept HB6.out); replace HG := Lib.hid (HG.out.kept HB6.out); replace HXV := Lib.hid (HXV.out.kept HB6.out); replace HB5 := Lib.hid (below_onto HB5.out HB6.out)
  clear HKS HXR HB6 HR7
  have hd0 := HXV.out.blk.cell.1; have hd1 := HXV.out.blk.cell.2
  obtain ⟨mx, hmx⟩ : ∃ mx, 1 + xs.length + totF rx = mx := ⟨_, rfl⟩
  have hmxb : mx ≤ 4398046511104 := by have h1 := tot_big HRX.out hL HL.out; omega
  have hmxn : decide ((mx : Int) < 0) = false := decide_eq_false (by omega)
  have HMX := Lib.hid hmx
  clear hmx
  go_wp2_with fail
  refine (markDesk_any _ _ Bx xs rx 1 mx HMX.out hmxb _ HXV.out.g).mono ?_
  rintro e w10 hmk
  have hmk1 := hmk.1
  subst hmk1
  have hu := HXV.out.markU hmk
  replace HV5 := Lib.hid (HV5.out.upon hu (fun q h1 h2 h3 => by have h4 := HTX.out.1; omega))
  replace HG := Lib.hid (HG.out.upon hu (fun q h1 h2 h3 => by have h4 := HTG.out; omega))
  replace HB5 := Lib.hid (HB5.out.trans (hu.below (B := w1.heap.size) (fun q h3 => by have h4 := HTX.out.1; have h5 := HV5.out.lo; have h7 := HV5.out.hi.1; omega) HB5.out.size))
  have HSEP := Lib.hid (show T0 ≤ B1 by have h4 := HTX.out.1; have h5 := HXV.out.lo; have h6 := HXV.out.hi.1; have h7 := HTG.out; omega)
  clear hu hmk hd0 hd1 HXV
  have hc0 := HV5.out.blk.cell.1; have hc1 := HV5.out.blk.cell.2; have hd0 := HG.out.blk.cell.1; have hd1 := HG.out.blk.cell.2
  go_wp2_with fail
  refine (eqDesk_any _ _ ys M HYL.out HML.out HMM.out _ (HG.out.read HR1.out HOK.out) (HV5.out.read HR0.out HOK.out)).mono ?_
  rintro e w11 ⟨rfl, hb⟩
  replace HV5 := Lib.hid (HV5.out.kept hb); replace HG := Lib.hid (HG.out.kept hb); replace HB5 := Lib.hid (below_onto HB5.out hb)
  clear hb hc0 hc1 hd0 hd1
  have hd0 := HG.out.blk.cell.1; have hd1 := HG.out.blk.cell.2
  obtain ⟨m, hm⟩ : ∃ m, 1 + ys.length + totF r1 = m := ⟨_, rfl⟩
  have hmb : m ≤ 4398046511104 := by have h1 := HOK.out.tot HR1.out; have h2 := HOK.out.1.1; omega
  have hmn : decide ((m : Int) < 0) = false := decide_eq_false (by omega)
  have hmm : ((m : Int) != (m : Int)) = false := by simp
  have HM := Lib.hid hm
  have HTT := Lib.hid (show 1 + ys.length + ((r1.map Fr.xs).map List.length).sum = m from hm)
  clear hm
  go_wp2_with fail
  refine (markDesk_any _ _ B1 ys r1 1 m HM.out hmb _ HG.out.g).mono ?_
  rintro e w12 hmk
  have hmk1 := hmk.1
  subst hmk1
  have hu := HG.out.markU hmk
  replace HG := Lib.hid (HG.out.mark hmk)
  replace HV5 := Lib.hid (HV5.out.upon hu (fun q h1 h2 h3 => by have h4 := HSEP.out; omega))
  replace HB5 := Lib.hid (HB5.out.trans (hu.below (B := w1.heap.size) (fun q h3 => by have h4 := HSEP.out; have h5 := HV5.out.lo; have h6 := HWB.out; have h7 := HV5.out.hi.1; omega) HB5.out.size))
  have HRD := Lib.hid (HG.out.g.marked HM.out hmb)
  clear hu hmk hd0 hd1
  have hd0 := HG.out.blk.cell.1; have hd1 := HG.out.blk.cell.2
  go_wp2_with fail
  refine (heldDesk_any _ ys.length ((r1.map Fr.xs).map List.length) 1 m HTT.out hmb _ HRD.out).mono ?_
  rintro e w13 ⟨rfl, hb⟩
  replace HV5 := Lib.hid (HV5.out.kept hb); replace HG := Lib.hid (HG.out.kept hb); replace HB5 := Lib.hid (below_onto HB5.out hb); replace HRD := Lib.hid (HRD.out.kept hb)
  clear hb hd0 hd1
  have hd0 := (HBL.out.kept HB5.out HBL.out.lt).cell.1; have hd1 := (HBL.out.kept HB5.out HBL.out.lt).cell.2; have he0 := (HBE.out.kept HB5.out HBE.out.lt).cell.1; have he1 := (HBE.out.kept HB5.out HBE.out.lt).cell.2
  have HKS := Lib.hid (show ∀ W, Below w13.heap.size w13 W → ((W.cell? ⟨w.heap.size, 0, none⟩ = some (.slice a xs.length c) ∧ W.cell? ⟨w.heap.size, 1, none⟩ = some (.slice b L.length c2)) ∧ (W.cell? ⟨w.heap.size + 1, 0, none⟩ = some (.int .i64 k) ∧ W.cell? ⟨w.heap.size + 1, 1, none⟩ = some (.int .i64 x))) from
    fun W hW => ⟨(HBL.out.kept (below_onto HB5.out hW) HBL.out.lt).cell, (HBE.out.kept (below_onto HB5.out hW) HBE.out.lt).cell⟩)
  go_upto_region 24 with fail
  go_cut [14, 15] (fun s1 s2 wx => CutV w13 ys M ok s1 s2 wx)
  case first =>
    have HB6 := Lib.hid (Below.refl w13.heap.size w13)
    go_region_held3 (fun W => ((W.cell? ⟨w.heap.size, 0, none⟩ = some (.slice a xs.length c) ∧ W.cell? ⟨w.heap.size, 1, none⟩ = some (.slice b L.length c2)) ∧ (W.cell? ⟨w.heap.size + 1, 0, none⟩ = some (.int .i64 k) ∧ W.cell? ⟨w.heap.size + 1, 1, none⟩ = some (.int .i64 x)))) (first | exact HKS.out _ HB6.out | exact HKS.out _ HB6.out.drew | exact HKS.out _ (HB6.out.alloc HB6.out.size _) | exact HKS.out _ (HB6.out.alloc HB6.out.size _).drew | exact HKS.out _ ((HB6.out.setCell (p := ⟨_, 0, none⟩) HS8.out _).setCell (p := ⟨_, 1, none⟩) HS8.out _) | exact HKS.out _ ((HB6.out.setCell (p := ⟨_, 0, none⟩) HS7.out _).setCell (p := ⟨_, 1, none⟩) HS7.out _) | exact HKS.out _ ((HB6.out.setCell (p := ⟨_, 0, none⟩) (Nat.le_refl _) _).setCell (p := ⟨_, 1, none⟩) (Nat.le_refl _) _) | go_keep)
      (first | (go_at_call 31; refine (toDesk_any _ xs L hx hL HL.out _ (HD.out.kept (below_onto HB5.out (by first | with_reducible exact HB6.out | with_reducible exact HB6.out.drew | with_reducible exact HB6.out.alloc HB6.out.size _ | with_reducible exact (HB6.out.alloc HB6.out.size _).drew)))).mono ?_; rintro e w7 ⟨v1, v2, rfl, hg⟩; obtain ⟨hr7, hb7, ⟨y1, y2, rfl⟩, ⟨y3, y4, rfl⟩⟩ := hg.read HX.out HLI.out; have HR7 := Lib.hid hr7; (try (have HZB : Hid (Blk2 w7 w13.heap.size 26 (.slice none 0 0) (.slice none 0 0)) := Lib.hid (by with_reducible exact blk2_new_dr hb7))); have HZ := Lib.hid (below_onto (show Below w13.heap.size w13 _ from (by first | with_reducible exact HB6.out | with_reducible exact HB6.out.drew | with_reducible exact HB6.out.alloc HB6.out.size _ | with_reducible exact (HB6.out.alloc HB6.out.size _).drew)) hb7); clear HB6; have HB6 := HZ; clear HZ; have HS7 := Lib.hid HB6.out.size; clear hg hb7 hr7) | (go_at_call 38; refine (toDeed_any k x _).mono ?_; rintro e w8 ⟨rfl, hb8⟩; have hq8 : Below w7.heap.size w7 w8 := (by first | with_reducible exact hb8 | with_reducible exact below_onto (alloc_below w7 _) hb8); have HR8 := Lib.hid (HR7.out.kept hq8); (first | (replace HZB := Lib.hid (HZB.out.kept hq8 HZB.out.lt)) | (have HZB : Hid (Blk2 w8 w7.heap.size 26 (.slice none 0 0) (.slice none 0 0)) := Lib.hid (by with_reducible exact blk2_new_al hb8)) | skip); have HZ := Lib.hid (below_onto (show Below w13.heap.size w13 _ from (by first | with_reducible exact HB6.out | with_reducible exact HB6.out.drew | with_reducible exact HB6.out.alloc HB6.out.size _ | with_reducible exact (HB6.out.alloc HB6.out.size _).drew)) hb8); clear HB6; have HB6 := HZ; clear HZ; have HS8 := Lib.hid HB6.out.size; clear hb8 hq8) | (go_at_call 23; refine (HID.out _ _ (by first | with_reducible exact HR8.out | with_reducible exact HR8.out.kept (alloc_below w8 _))).mono ?_; rintro e w9 ⟨v3, v4, rfl, hp⟩; have hg9 := hp; obtain ⟨z1, z2, rfl⟩ := hg9.one; obtain ⟨z3, z4, rfl⟩ := hg9.two; (first | (have HZL := Lib.hid HZB.out.lt; replace HZB := Lib.hid (HZB.out.kept hg9.below HZB.out.lt)) | (have HZL := Lib.hid (alloc_lt w8 (.cells #[.slice none 0 0, .slice none 0 0] 26)); have HZB : Hid (Blk2 w9 w8.heap.size 26 (.slice none 0 0) (.slice none 0 0)) := Lib.hid (by with_reducible exact blk2_new_al hg9.below)) | skip); (try (have hx0 := HZB.out.cell.1; have hx1 := HZB.out.cell.2; have hx2 := HZB.out.frozen 0; have hx3 := HZB.out.frozen 1)); have HG9 := Lib.hid hg9; have HZ := Lib.hid (below_onto (show Below w13.heap.size w13 _ from (by first | with_reducible exact HB6.out | with_reducible exact HB6.out.drew | with_reducible exact HB6.out.alloc HB6.out.size _ | with_reducible exact (HB6.out.alloc HB6.out.size _).drew)) hg9.below); clear HB6; have HB6 := HZ; clear HZ; clear hp hg9))
    all_goals
      go_wp2_with fail
      go_meet
      first
        | exact cutV_last HG9.out HB6.out (by first | exact HS8.out | exact HB6.out.size)
        | exact cutV_set HG9.out HZB.out HZL.out HB6.out (by first | exact Nat.le_refl _ | exact HS7.out | exact HS8.out)
  case rest =>
  rename_i wc3
  obtain ⟨b2, T2, v21, v22, r2, rfl, rfl, hv2, hr2, ht2, hb2⟩ := hcut
  obtain ⟨s1, t1, rfl⟩ := hv2.g.now.slice
  obtain ⟨s2, t2, hp2⟩ := hv2.g.past.seq.slice
  have hrl2 : (r2.map Fr.v).length = M.length := by rw [← hr2, List.length_map, List.length_map]
  rw [hrl2] at hp2
  subst hp2
  replace HV5 := Lib.hid (HV5.out.kept hb2); replace HG := Lib.hid (HG.out.kept hb2); replace HB5 := Lib.hid (below_onto HB5.out hb2); replace HRD := Lib.hid (HRD.out.kept hb2)
  have HH := Lib.hid hv2; have HR2 := Lib.hid hr2
  clear hv2 hr2 ht2 hb2 hrl2 hd0 hd1 he0 he1 HKS
  have hc0 := HV5.out.blk.cell.1; have hc1 := HV5.out.blk.cell.2; have hd0 := HH.out.blk.cell.1; have hd1 := HH.out.blk.cell.2
  go_wp2_with fail
  refine (eqDesk_any _ _ ys M HYL.out HML.out HMM.out _ (HH.out.read HR2.out HOK.out) (HV5.out.read HR0.out HOK.out)).mono ?_
  rintro e w17 ⟨rfl, hb⟩
  replace HG := Lib.hid (HG.out.kept hb); replace HB5 := Lib.hid (below_onto HB5.out hb); replace HRD := Lib.hid (HRD.out.kept hb)
  clear hb hc0 hc1 hd0 hd1
  have hd0 := HG.out.blk.cell.1; have hd1 := HG.out.blk.cell.2
  go_wp2_with fail
  refine (heldDesk_any _ ys.length ((r1.map Fr.xs).map List.length) 1 m HTT.out hmb _ HRD.out).mono ?_
  rintro e w18 ⟨rfl, hb⟩
  replace HB5 := Lib.hid (below_onto HB5.out hb)
  clear hb hd0 hd1
  go_wp2_with fail
  go_ret
  exact ⟨rfl, below_onto HQ.out HB5.out⟩
end Go.Proofs.Ytndcnfbncepihaa
