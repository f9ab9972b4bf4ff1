import Derived.Test.YthaickihoagnmaaGreatDoorQD12
set_option linter.unusedVariables false
set_option linter.unusedSimpArgs false
set_option maxHeartbeats 12800000
namespace Go.Proofs.YthaickihoagnmaaGreatDoor
open Go.RowKit Go.Maps
theorem two_set {n : Nat} {f : Nat → Int} (hw : worldB n f = true) {X Y : Nat} (hX : X < n) (hY : Y < n) : setB n f (twoS X Y) = true := by
  have h7 := (worldB_7 hw).2
  refine setB_iff.2 ⟨hw, ?_⟩
  have key : ∀ n, n < 8 → ∀ X, X < n → ∀ Y, Y < n → 1 ≤ twoS (X : Nat) (Y : Nat) ∧ twoS (X : Nat) (Y : Nat) ≤ 2 ^ n - 1 := by decide +kernel
  exact key n (by omega) X hX Y hY
theorem own3 {w : World} {B : Nat} {v : Value} {x y z : ByteArray} (h : OwnS w B v [x, y, z]) : ∃ g cp m, v = .slice (some ⟨g, 0, none⟩) m cp ∧ m = 3 ∧ B ≤ g ∧ g < w.heap.size ∧ w.cell? ⟨g, 0, none⟩ = some (.string x) ∧ w.cell? ⟨g, 1, none⟩ = some (.string y) ∧ w.cell? ⟨g, 2, none⟩ = some (.string z) := by
  obtain ⟨g, c, e, h1, h2, h3⟩ := h.at (i := 0) (show 0 < 3 by omega)
  obtain ⟨g', c', e', _, _, h4⟩ := h.at (i := 1) (show 1 < 3 by omega)
  obtain ⟨g'', c'', e'', _, _, h5⟩ := h.at (i := 2) (show 2 < 3 by omega)
  have f1 := e.symm.trans e'
  have f2 := e.symm.trans e''
  injection f1 with f1 _ _
  injection f2 with f2 _ _
  injection f1 with f1; injection f1 with f1
  injection f2 with f2; injection f2 with f2
  subst f1; subst f2
  exact ⟨g, c, 3, e, rfl, h1, h2, h3, h4, h5⟩
set_option maxRecDepth 100000 in
theorem specLine_whole0 (d : Value) (xs : List Int) (L : List (List Int)) (s : ByteArray) (hs : s.size ≤ 1048600) (hdk : deskB xs L = true) (hrd : rdDB s.data.toList = false) (h0 : s.data.toList ≠ allW) (h1 : s.data.toList ≠ companyW) (h2 : s.data.toList ≠ weakW) (h3 : s.data.toList ≠ strongW) (h4 : s.data.toList ≠ summedW) (h5 : s.data.toList ≠ classicalW) (h6 : s.data.toList ≠ atomsW) (h7 : s.data.toList = wholeW) (ho : wholeOk xs.length (wdF xs) = false) (w : World) (h : DeskR w d xs L) :
    Calls Tryz.prog 21 #[d, .string s] w (LineD xs L noneW w) := by
  have HDK := Lib.hid hdk; have HRD := Lib.hid hrd
  have hf := (deskB_iff.1 hdk).1
  have HF := Lib.hid hf
  have hl := famL_len hf
  have HE := Lib.hid (show ({ data := #[110, 111, 110, 101] } : ByteArray) = bs noneW from rfl)
  obtain ⟨i, hi⟩ : ∃ i, wholeN xs.length (wdF xs) = i := ⟨_, rfl⟩
  have HI1 := Lib.hid hi; have HI2 := Lib.hid ho
  have kh0 : (s.toList == [97, 108, 108]) = false := by rw [eqW]; exact decide_eq_false h0
  have kh1 : (s.toList == [99, 111, 109, 112, 97, 110, 121]) = false := by rw [eqW]; exact decide_eq_false h1
  have kh2 : (s.toList == [119, 101, 97, 107]) = false := by rw [eqW]; exact decide_eq_false h2
  have kh3 : (s.toList == [115, 116, 114, 111, 110, 103]) = false := by rw [eqW]; exact decide_eq_false h3
  have kh4 : (s.toList == [115, 117, 109, 109, 101, 100]) = false := by rw [eqW]; exact decide_eq_false h4
  have kh5 : (s.toList == [99, 108, 97, 115, 115, 105, 99, 97, 108]) = false := by rw [eqW]; exact decide_eq_false h5
  have kh6 : (s.toList == [97, 116, 111, 109, 115]) = false := by rw [eqW]; exact decide_eq_false h6
  have kh7 : (s.toList == [119, 104, 111, 108, 101]) = true := by rw [eqW]; exact decide_eq_true h7
  clear hdk hrd hi ho
  have hdd := h
  obtain ⟨a, c, b, c2, rfl, _⟩ := h.parts
  obtain ⟨g2, o2, rfl, hg2, hrw⟩ := hdd.now.row (by omega)
  have HG2 := Lib.hid (show g2 ≠ w.heap.size + 1 by omega)
  have HROW := Lib.hid (show ∀ W', Below w.heap.size w W' → ∀ C, C < xs.length → W'.cell? ⟨g2, o2 + C, none⟩ = some (.int .i64 (xs.getD C 0)) from fun W' hW C hC => (hrw.below hW hg2) C hC)
  have q1 := alloc_below w (.cells #[.slice (some ⟨g2, o2, none⟩) xs.length c, .slice b L.length c2] 31)
  have q2 := alloc_below (w.alloc (.cells #[.slice (some ⟨g2, o2, none⟩) xs.length c, .slice b L.length c2] 31)) (.cells #[.slice none 0 0, .slice none 0 0] 31)
  have HV := Lib.hid ((VarD.new hdd).kept q2)
  have hbr := Blk2.new (w.alloc (.cells #[.slice (some ⟨g2, o2, none⟩) xs.length c, .slice b L.length c2] 31)) 31 (.slice none 0 0) (.slice none 0 0)
  rw [alloc_size] at hbr
  have HBR := Lib.hid hbr
  have HB := Lib.hid (below_onto q1 q2)
  obtain ⟨w2, hw2⟩ : ∃ w2, (w.alloc (.cells #[.slice (some ⟨g2, o2, none⟩) xs.length c, .slice b L.length c2] 31)).alloc (.cells #[.slice none 0 0, .slice none 0 0] 31) = w2 := ⟨_, rfl⟩
  rw [hw2] at HV HBR HB
  have hd0 := HV.out.blk.cell.1; have hd1 := HV.out.blk.cell.2
  clear h hdd q1 q2 hbr hg2 hrw
  go_enter Tryz.func21, Tryz.ntmps21
  go_wp2_with fail
  clear hw2
  refine (specDeskOk_any _ xs L _ HV.out.d).mono ?_
  rintro e w3 ⟨rfl, hb⟩
  rw [HDK.out]
  replace HV := Lib.hid (HV.out.kept hb); replace HBR := Lib.hid (HBR.out.kept hb HBR.out.lt); replace HB := Lib.hid (below_onto HB.out hb)
  clear hb hd0 hd1
  have hd0 := HV.out.blk.cell.1; have hd1 := HV.out.blk.cell.2
  have HB3 := HB
  have HLT := Lib.hid (show w.heap.size + 1 < w3.heap.size from HBR.out.lt)
  go_wp2_with fail
  refine (l12Copy_any _ xs L HDK.out _ HV.out.d).mono ?_
  rintro e w4 ⟨v1, v2, rfl, hgo⟩
  have hg := hgo.desk
  obtain ⟨p1, e1, rfl⟩ := hg.one
  obtain ⟨p2, e2, rfl⟩ := hg.two
  have HG := Lib.hid hg
  have hal := alloc_below w4 (.cells #[.slice p1 xs.length e1, .slice p2 L.length e2] 31)
  have HO := Lib.hid (Blk2.new w4 31 (.slice p1 xs.length e1) (.slice p2 L.length e2))
  have HB4 := Lib.hid hal
  have hb := below_onto hg.below hal
  have HNO := Lib.hid (show w.heap.size + 1 < w4.heap.size from Nat.lt_of_lt_of_le HLT.out hg.below.size)
  replace HV := Lib.hid (HV.out.kept hb); replace HBR := Lib.hid (HBR.out.kept hb HBR.out.lt); replace HB := Lib.hid (below_onto HB.out hb)
  obtain ⟨w5, hw5⟩ : ∃ w5, w4.alloc (.cells #[.slice p1 xs.length e1, .slice p2 L.length e2] 31) = w5 := ⟨_, rfl⟩
  obtain ⟨O, hO⟩ : ∃ O, w4.heap.size = O := ⟨_, rfl⟩
  rw [hw5] at HV HBR HB HO HB4
  rw [hO] at HO HNO
  clear hgo hg hal hb hd0 hd1
  go_wp2_with fail
  clear hw5 hO
  refine (specReadDeed_any s hs _).mono ?_
  rintro e w6 ⟨rfl, hb⟩
  rw [HRD.out]
  obtain ⟨rk, hrk⟩ : ∃ rk, rdK s.data.toList = rk := ⟨_, rfl⟩
  obtain ⟨ry, hry⟩ : ∃ ry, rdY s.data.toList = ry := ⟨_, rfl⟩
  rw [hrk, hry]
  have hal := alloc_below w6 (.cells #[.int .i64 rk, .int .i64 ry] 39)
  have HE7 := Lib.hid (Blk2.new w6 39 (.int .i64 rk) (.int .i64 ry))
  replace hb := below_onto hb hal
  replace HV := Lib.hid (HV.out.kept hb); replace HBR := Lib.hid (HBR.out.kept hb HBR.out.lt); replace HB := Lib.hid (below_onto HB.out hb)
  replace HO := Lib.hid (HO.out.kept hb HO.out.lt); replace HB4 := Lib.hid (below_onto HB4.out hb)
  obtain ⟨w7, hw7⟩ : ∃ w7, w6.alloc (.cells #[.int .i64 rk, .int .i64 ry] 39) = w7 := ⟨_, rfl⟩
  obtain ⟨E, hE⟩ : ∃ E, w6.heap.size = E := ⟨_, rfl⟩
  rw [hw7] at HV HBR HB HO HB4 HE7
  rw [hE] at HE7
  have hd0 := HV.out.blk.cell.1; have hd1 := HV.out.blk.cell.2
  have HRK := Lib.hid hrk; have HRY := Lib.hid hry
  clear hb hal hrk hry
  go_wp2_with fail
  clear hw7 hE
  refine (specWorldFrom_any (some ⟨g2, o2, none⟩) xs.length c (fun j => xs.getD j 0) _ HV.out.d.now).mono ?_
  intro e w8 hg8
  obtain ⟨g, cap, rfl, hi, hb⟩ := wd_gives HF.out hg8
  have HI := Lib.hid hi
  replace HV := Lib.hid (HV.out.kept hb); replace HBR := Lib.hid (HBR.out.kept hb HBR.out.lt); replace HB := Lib.hid (below_onto HB.out hb)
  replace HO := Lib.hid (HO.out.kept hb HO.out.lt); replace HB4 := Lib.hid (below_onto HB4.out hb)
  clear hg8 hi hb hd0 hd1
  go_wp2_with fail
  refine (specWholeOf_val _ _ _ _ i false _ HI1.out HI2.out HI.out).mono ?_
  rintro e w9 ⟨rfl, hd⟩
  have hb := hd.below
  replace HV := Lib.hid (HV.out.kept hb); replace HBR := Lib.hid (HBR.out.kept hb HBR.out.lt); replace HB := Lib.hid (below_onto HB.out hb)
  replace HO := Lib.hid (HO.out.kept hb HO.out.lt); replace HB4 := Lib.hid (below_onto HB4.out hb)
  clear hb hd
  have ho0 := HO.out.cell.1; have ho1 := HO.out.cell.2
  have hr0 := HBR.out.cell.1; have hr1 := HBR.out.cell.2; have hr2 := HBR.out.frozen 0; have hr3 := HBR.out.frozen 1
  go_wp2_with fail
  refine bodyPost_ret (results_desk rfl _ _ (w.heap.size + 1) ((HBR.out.set0 _).set1 _) rfl rfl (by kernel_rfl)) rfl ?_
  exact ⟨_, _, retdt HE.out, HG.out.fin HB3.out (Nat.le_succ _) HLT.out HB4.out⟩
set_option maxRecDepth 100000 in
theorem specLine_whole1 (d : Value) (xs : List Int) (L : List (List Int)) (s : ByteArray) (hs : s.size ≤ 1048600) (hdk : deskB xs L = true) (hrd : rdDB s.data.toList = false) (h0 : s.data.toList ≠ allW) (h1 : s.data.toList ≠ companyW) (h2 : s.data.toList ≠ weakW) (h3 : s.data.toList ≠ strongW) (h4 : s.data.toList ≠ summedW) (h5 : s.data.toList ≠ classicalW) (h6 : s.data.toList ≠ atomsW) (h7 : s.data.toList = wholeW) (C : Nat) (hC : C < xs.length) (hN : wholeN xs.length (wdF xs) = C) (ho : wholeOk xs.length (wdF xs) = true) (w : World) (h : DeskR w d xs L) :
    Calls Tryz.prog 21 #[d, .string s] w (LineD xs L (setL (xs.getD C 0)) w) := by
  have HDK := Lib.hid hdk; have HRD := Lib.hid hrd
  have hf := (deskB_iff.1 hdk).1
  have HF := Lib.hid hf
  have hl := famL_len hf
  obtain ⟨ta, hta⟩ : ∃ ta, bs (setL (xs.getD C 0)) = ta := ⟨_, rfl⟩
  unfold LineD
  rw [hta]
  obtain ⟨z, hz⟩ : ∃ z, xs.getD C 0 = z := ⟨_, rfl⟩
  have HSE := Lib.hid (show setT z = ta from by rw [← hta, hz]; rfl)
  have HZ0 := Lib.hid hz; have HC := Lib.hid hC
  have HI1 := Lib.hid hN; have HI2 := Lib.hid ho
  have kh0 : (s.toList == [97, 108, 108]) = false := by rw [eqW]; exact decide_eq_false h0
  have kh1 : (s.toList == [99, 111, 109, 112, 97, 110, 121]) = false := by rw [eqW]; exact decide_eq_false h1
  have kh2 : (s.toList == [119, 101, 97, 107]) = false := by rw [eqW]; exact decide_eq_false h2
  have kh3 : (s.toList == [115, 116, 114, 111, 110, 103]) = false := by rw [eqW]; exact decide_eq_false h3
  have kh4 : (s.toList == [115, 117, 109, 109, 101, 100]) = false := by rw [eqW]; exact decide_eq_false h4
  have kh5 : (s.toList == [99, 108, 97, 115, 115, 105, 99, 97, 108]) = false := by rw [eqW]; exact decide_eq_false h5
  have kh6 : (s.toList == [97, 116, 111, 109, 115]) = false := by rw [eqW]; exact decide_eq_false h6
  have kh7 : (s.toList == [119, 104, 111, 108, 101]) = true := by rw [eqW]; exact decide_eq_true h7
  clear hdk hrd hN ho hta hz
  have hdd := h
  obtain ⟨a, c, b, c2, rfl, _⟩ := h.parts
  obtain ⟨g2, o2, rfl, hg2, hrw⟩ := hdd.now.row (by omega)
  have HG2 := Lib.hid (show g2 ≠ w.heap.size + 1 by omega)
  have HROW := Lib.hid (show ∀ W', Below w.heap.size w W' → ∀ C, C < xs.length → W'.cell? ⟨g2, o2 + C, none⟩ = some (.int .i64 (xs.getD C 0)) from fun W' hW C hC => (hrw.below hW hg2) C hC)
  have q1 := alloc_below w (.cells #[.slice (some ⟨g2, o2, none⟩) xs.length c, .slice b L.length c2] 31)
  have q2 := alloc_below (w.alloc (.cells #[.slice (some ⟨g2, o2, none⟩) xs.length c, .slice b L.length c2] 31)) (.cells #[.slice none 0 0, .slice none 0 0] 31)
  have HV := Lib.hid ((VarD.new hdd).kept q2)
  have hbr := Blk2.new (w.alloc (.cells #[.slice (some ⟨g2, o2, none⟩) xs.length c, .slice b L.length c2] 31)) 31 (.slice none 0 0) (.slice none 0 0)
  rw [alloc_size] at hbr
  have HBR := Lib.hid hbr
  have HB := Lib.hid (below_onto q1 q2)
  obtain ⟨w2, hw2⟩ : ∃ w2, (w.alloc (.cells #[.slice (some ⟨g2, o2, none⟩) xs.length c, .slice b L.length c2] 31)).alloc (.cells #[.slice none 0 0, .slice none 0 0] 31) = w2 := ⟨_, rfl⟩
  rw [hw2] at HV HBR HB
  have hd0 := HV.out.blk.cell.1; have hd1 := HV.out.blk.cell.2
  clear h hdd q1 q2 hbr hg2 hrw
  go_enter Tryz.func21, Tryz.ntmps21
  go_wp2_with fail
  clear hw2
  refine (specDeskOk_any _ xs L _ HV.out.d).mono ?_
  rintro e w3 ⟨rfl, hb⟩
  rw [HDK.out]
  replace HV := Lib.hid (HV.out.kept hb); replace HBR := Lib.hid (HBR.out.kept hb HBR.out.lt); replace HB := Lib.hid (below_onto HB.out hb)
  clear hb hd0 hd1
  have hd0 := HV.out.blk.cell.1; have hd1 := HV.out.blk.cell.2
  have HB3 := HB
  have HLT := Lib.hid (show w.heap.size + 1 < w3.heap.size from HBR.out.lt)
  go_wp2_with fail
  refine (l12Copy_any _ xs L HDK.out _ HV.out.d).mono ?_
  rintro e w4 ⟨v1, v2, rfl, hgo⟩
  have hg := hgo.desk
  obtain ⟨p1, e1, rfl⟩ := hg.one
  obtain ⟨p2, e2, rfl⟩ := hg.two
  have HG := Lib.hid hg
  have hal := alloc_below w4 (.cells #[.slice p1 xs.length e1, .slice p2 L.length e2] 31)
  have HO := Lib.hid (Blk2.new w4 31 (.slice p1 xs.length e1) (.slice p2 L.length e2))
  have HB4 := Lib.hid hal
  have hb := below_onto hg.below hal
  have HNO := Lib.hid (show w.heap.size + 1 < w4.heap.size from Nat.lt_of_lt_of_le HLT.out hg.below.size)
  replace HV := Lib.hid (HV.out.kept hb); replace HBR := Lib.hid (HBR.out.kept hb HBR.out.lt); replace HB := Lib.hid (below_onto HB.out hb)
  obtain ⟨w5, hw5⟩ : ∃ w5, w4.alloc (.cells #[.slice p1 xs.length e1, .slice p2 L.length e2] 31) = w5 := ⟨_, rfl⟩
  obtain ⟨O, hO⟩ : ∃ O, w4.heap.size = O := ⟨_, rfl⟩
  rw [hw5] at HV HBR HB HO HB4
  rw [hO] at HO HNO
  clear hgo hg hal hb hd0 hd1
  go_wp2_with fail
  clear hw5 hO
  refine (specReadDeed_any s hs _).mono ?_
  rintro e w6 ⟨rfl, hb⟩
  rw [HRD.out]
  obtain ⟨rk, hrk⟩ : ∃ rk, rdK s.data.toList = rk := ⟨_, rfl⟩
  obtain ⟨ry, hry⟩ : ∃ ry, rdY s.data.toList = ry := ⟨_, rfl⟩
  rw [hrk, hry]
  have hal := alloc_below w6 (.cells #[.int .i64 rk, .int .i64 ry] 39)
  have HE7 := Lib.hid (Blk2.new w6 39 (.int .i64 rk) (.int .i64 ry))
  replace hb := below_onto hb hal
  replace HV := Lib.hid (HV.out.kept hb); replace HBR := Lib.hid (HBR.out.kept hb HBR.out.lt); replace HB := Lib.hid (below_onto HB.out hb)
  replace HO := Lib.hid (HO.out.kept hb HO.out.lt); replace HB4 := Lib.hid (below_onto HB4.out hb)
  obtain ⟨w7, hw7⟩ : ∃ w7, w6.alloc (.cells #[.int .i64 rk, .int .i64 ry] 39) = w7 := ⟨_, rfl⟩
  obtain ⟨E, hE⟩ : ∃ E, w6.heap.size = E := ⟨_, rfl⟩
  rw [hw7] at HV HBR HB HO HB4 HE7
  rw [hE] at HE7
  have hd0 := HV.out.blk.cell.1; have hd1 := HV.out.blk.cell.2
  have HRK := Lib.hid hrk; have HRY := Lib.hid hry
  clear hb hal hrk hry
  go_wp2_with fail
  clear hw7 hE
  refine (specWorldFrom_any (some ⟨g2, o2, none⟩) xs.length c (fun j => xs.getD j 0) _ HV.out.d.now).mono ?_
  intro e w8 hg8
  obtain ⟨g, cap, rfl, hi, hb⟩ := wd_gives HF.out hg8
  have HI := Lib.hid hi
  replace HV := Lib.hid (HV.out.kept hb); replace HBR := Lib.hid (HBR.out.kept hb HBR.out.lt); replace HB := Lib.hid (below_onto HB.out hb)
  replace HO := Lib.hid (HO.out.kept hb HO.out.lt); replace HB4 := Lib.hid (below_onto HB4.out hb)
  clear hg8 hi hb hd0 hd1
  go_wp2_with fail
  refine (specWholeOf_val _ _ _ _ C true _ HI1.out HI2.out HI.out).mono ?_
  rintro e w9 ⟨rfl, hd⟩
  have hb := hd.below
  replace HV := Lib.hid (HV.out.kept hb); replace HBR := Lib.hid (HBR.out.kept hb HBR.out.lt); replace HB := Lib.hid (below_onto HB.out hb)
  replace HO := Lib.hid (HO.out.kept hb HO.out.lt); replace HB4 := Lib.hid (below_onto HB4.out hb)
  clear hb hd
  have HR := Lib.hid (show ∀ W', Below w9.heap.size w9 W' → Blk2 W' (w.heap.size + 1) 31 (.slice none 0 0) (.slice none 0 0) from fun W' hW => HBR.out.kept hW HBR.out.lt)
  have HKS := Lib.hid (show ∀ W', Below w9.heap.size w9 W' → (W'.cell? ⟨O, 0, none⟩ = some (.slice p1 xs.length e1) ∧ W'.cell? ⟨O, 1, none⟩ = some (.slice p2 L.length e2)) from fun W' hW => (HO.out.kept hW HO.out.lt).cell)
  have HKW := Lib.hid (show ∀ W' W'' : World, Below w9.heap.size w9 W' → W''.heap[O]? = W'.heap[O]? → (W''.cell? ⟨O, 0, none⟩ = some (.slice p1 xs.length e1) ∧ W''.cell? ⟨O, 1, none⟩ = some (.slice p2 L.length e2)) from fun W' W'' hW hW' => Blk2.cell (show Blk2 W'' O 31 _ _ from hW'.trans (HO.out.kept hW HO.out.lt)))
  have hn1 : ¬ O = w.heap.size + 1 := by have := HNO.out; omega
  have HN1 := Lib.hid hn1
  have HCX := Lib.hid (show ∀ W', Below w9.heap.size w9 W' → W'.cell? ⟨g2, o2 + C, none⟩ = some (.int .i64 z) from fun W' hW => by
    have := HROW.out W' (below_onto HB.out hW) C HC.out
    rw [HZ0.out] at this
    exact this)
  have HCY := Lib.hid (show ∀ W' W'' : World, Below w9.heap.size w9 W' → W''.heap[g2]? = W'.heap[g2]? → W''.cell? ⟨g2, o2 + C, none⟩ = some (.int .i64 z) from fun W' W'' hW hW' => (World.cell?_of_block (a := ⟨g2, o2 + C, none⟩) hW').trans (HCX.out W' hW))
  have hC0 : (0 : Int) ≤ (C : Int) := by omega
  have hC1 : (C : Int) < (xs.length : Int) := by have := HC.out; omega
  have HB6 := Lib.hid (Below.refl w9.heap.size w9)
  have hr0 := (HR.out _ HB6.out).cell.1; have hr1 := (HR.out _ HB6.out).cell.2; have hr2 := (HR.out _ HB6.out).frozen 0; have hr3 := (HR.out _ HB6.out).frozen 1
  go_upto_region 31 with fail
  go_region_held3 (fun W => W.cell? ⟨O, 0, none⟩ = some (.slice p1 xs.length e1) ∧ W.cell? ⟨O, 1, none⟩ = some (.slice p2 L.length e2) ∧ W.cell? ⟨g2, o2 + C, none⟩ = some (.int .i64 z)) (first | exact ⟨(HKS.out _ HB6.out).1, (HKS.out _ HB6.out).2, HCX.out _ HB6.out⟩ | exact ⟨(HKS.out _ HB6.out.drew).1, (HKS.out _ HB6.out.drew).2, HCX.out _ HB6.out.drew⟩ | exact ⟨(HKS.out _ (below_drewN HB6.out _)).1, (HKS.out _ (below_drewN HB6.out _)).2, HCX.out _ (below_drewN HB6.out _)⟩ | exact ⟨(HKW.out _ _ HB6.out ((set_blk HN1.out).trans (set_blk HN1.out))).1, (HKW.out _ _ HB6.out ((set_blk HN1.out).trans (set_blk HN1.out))).2, HCY.out _ _ HB6.out ((set_blk HG2.out).trans (set_blk HG2.out))⟩ | go_keep)
    (first | (go_at_call 28; refine (specSetText_any z _).mono ?_; rintro e w11 ⟨rfl, rfl⟩; rw [HSE.out]))
  all_goals
    go_wp2_with fail
    refine bodyPost_ret (results_desk rfl _ _ (w.heap.size + 1) (((HR.out _ HB6.out).set0 _).set1 _) rfl rfl (by kernel_rfl)) rfl ?_
    first
      | exact ⟨_, _, rfl, HG.out.fin HB3.out (Nat.le_succ _) HLT.out (below_onto HB4.out HB6.out)⟩
      | exact ⟨_, _, rfl, (HG.out.fin HB3.out (Nat.le_succ _) HLT.out (below_onto HB4.out HB6.out)).drew⟩
set_option maxRecDepth 100000 in
theorem specLine_what3 (d : Value) (xs : List Int) (L : List (List Int)) (s : ByteArray) (hs : s.size ≤ 1048600) (hdk : deskB xs L = true) (hrd : rdDB s.data.toList = false) (h0 : s.data.toList ≠ allW) (h1 : s.data.toList ≠ companyW) (h2 : s.data.toList ≠ weakW) (h3 : s.data.toList ≠ strongW) (h4 : s.data.toList ≠ summedW) (h5 : s.data.toList ≠ classicalW) (h6 : s.data.toList ≠ atomsW) (h7 : s.data.toList ≠ wholeW) (hw : (spL s.data.toList 32).length ≠ 3) (w : World) (h : DeskR w d xs L) :
    Calls Tryz.prog 21 #[d, .string s] w (LineD xs L whatW w) := by
  have HDK := Lib.hid hdk; have HRD := Lib.hid hrd
  have hf := (deskB_iff.1 hdk).1
  have HF := Lib.hid hf
  have hl := famL_len hf
  have HE := Lib.hid (show ({ data := #[119, 104, 97, 116] } : ByteArray) = bs whatW from rfl)
  obtain ⟨m, hm⟩ : ∃ m, (spL s.data.toList 32).length = m := ⟨_, rfl⟩
  rw [hm] at hw
  have HM := Lib.hid hm
  have hne : ((m : Int) != 3) = true := by simp; omega
  have kh0 : (s.toList == [97, 108, 108]) = false := by rw [eqW]; exact decide_eq_false h0
  have kh1 : (s.toList == [99, 111, 109, 112, 97, 110, 121]) = false := by rw [eqW]; exact decide_eq_false h1
  have kh2 : (s.toList == [119, 101, 97, 107]) = false := by rw [eqW]; exact decide_eq_false h2
  have kh3 : (s.toList == [115, 116, 114, 111, 110, 103]) = false := by rw [eqW]; exact decide_eq_false h3
  have kh4 : (s.toList == [115, 117, 109, 109, 101, 100]) = false := by rw [eqW]; exact decide_eq_false h4
  have kh5 : (s.toList == [99, 108, 97, 115, 115, 105, 99, 97, 108]) = false := by rw [eqW]; exact decide_eq_false h5
  have kh6 : (s.toList == [97, 116, 111, 109, 115]) = false := by rw [eqW]; exact decide_eq_false h6
  have kh7 : (s.toList == [119, 104, 111, 108, 101]) = false := by rw [eqW]; exact decide_eq_false h7
  clear hdk hrd hm
  have hdd := h
  obtain ⟨a, c, b, c2, rfl, _⟩ := h.parts
  have q1 := alloc_below w (.cells #[.slice a xs.length c, .slice b L.length c2] 31)
  have q2 := alloc_below (w.alloc (.cells #[.slice a xs.length c, .slice b L.length c2] 31)) (.cells #[.slice none 0 0, .slice none 0 0] 31)
  have HV := Lib.hid ((VarD.new hdd).kept q2)
  have hbr := Blk2.new (w.alloc (.cells #[.slice a xs.length c, .slice b L.length c2] 31)) 31 (.slice none 0 0) (.slice none 0 0)
  rw [alloc_size] at hbr
  have HBR := Lib.hid hbr
  have HB := Lib.hid (below_onto q1 q2)
  obtain ⟨w2, hw2⟩ : ∃ w2, (w.alloc (.cells #[.slice a xs.length c, .slice b L.length c2] 31)).alloc (.cells #[.slice none 0 0, .slice none 0 0] 31) = w2 := ⟨_, rfl⟩
  rw [hw2] at HV HBR HB
  have hd0 := HV.out.blk.cell.1; have hd1 := HV.out.blk.cell.2
  clear h hdd q1 q2 hbr
  go_enter Tryz.func21, Tryz.ntmps21
  go_wp2_with fail
  clear hw2
  refine (specDeskOk_any _ xs L _ HV.out.d).mono ?_
  rintro e w3 ⟨rfl, hb⟩
  rw [HDK.out]
  replace HV := Lib.hid (HV.out.kept hb); replace HBR := Lib.hid (HBR.out.kept hb HBR.out.lt); replace HB := Lib.hid (below_onto HB.out hb)
  clear hb hd0 hd1
  have hd0 := HV.out.blk.cell.1; have hd1 := HV.out.blk.cell.2
  have HB3 := HB
  have HLT := Lib.hid (show w.heap.size + 1 < w3.heap.size from HBR.out.lt)
  go_wp2_with fail
  refine (l12Copy_any _ xs L HDK.out _ HV.out.d).mono ?_
  rintro e w4 ⟨v1, v2, rfl, hgo⟩
  have hg := hgo.desk
  obtain ⟨p1, e1, rfl⟩ := hg.one
  obtain ⟨p2, e2, rfl⟩ := hg.two
  have HG := Lib.hid hg
  have hal := alloc_below w4 (.cells #[.slice p1 xs.length e1, .slice p2 L.length e2] 31)
  have HO := Lib.hid (Blk2.new w4 31 (.slice p1 xs.length e1) (.slice p2 L.length e2))
  have HB4 := Lib.hid hal
  have hb := below_onto hg.below hal
  have HNO := Lib.hid (show w.heap.size + 1 < w4.heap.size from Nat.lt_of_lt_of_le HLT.out hg.below.size)
  replace HV := Lib.hid (HV.out.kept hb); replace HBR := Lib.hid (HBR.out.kept hb HBR.out.lt); replace HB := Lib.hid (below_onto HB.out hb)
  obtain ⟨w5, hw5⟩ : ∃ w5, w4.alloc (.cells #[.slice p1 xs.length e1, .slice p2 L.length e2] 31) = w5 := ⟨_, rfl⟩
  obtain ⟨O, hO⟩ : ∃ O, w4.heap.size = O := ⟨_, rfl⟩
  rw [hw5] at HV HBR HB HO HB4
  rw [hO] at HO HNO
  clear hgo hg hal hb hd0 hd1
  go_wp2_with fail
  clear hw5 hO
  refine (specReadDeed_any s hs _).mono ?_
  rintro e w6 ⟨rfl, hb⟩
  rw [HRD.out]
  obtain ⟨rk, hrk⟩ : ∃ rk, rdK s.data.toList = rk := ⟨_, rfl⟩
  obtain ⟨ry, hry⟩ : ∃ ry, rdY s.data.toList = ry := ⟨_, rfl⟩
  rw [hrk, hry]
  have hal := alloc_below w6 (.cells #[.int .i64 rk, .int .i64 ry] 39)
  have HE7 := Lib.hid (Blk2.new w6 39 (.int .i64 rk) (.int .i64 ry))
  replace hb := below_onto hb hal
  replace HV := Lib.hid (HV.out.kept hb); replace HBR := Lib.hid (HBR.out.kept hb HBR.out.lt); replace HB := Lib.hid (below_onto HB.out hb)
  replace HO := Lib.hid (HO.out.kept hb HO.out.lt); replace HB4 := Lib.hid (below_onto HB4.out hb)
  obtain ⟨w7, hw7⟩ : ∃ w7, w6.alloc (.cells #[.int .i64 rk, .int .i64 ry] 39) = w7 := ⟨_, rfl⟩
  obtain ⟨E, hE⟩ : ∃ E, w6.heap.size = E := ⟨_, rfl⟩
  rw [hw7] at HV HBR HB HO HB4 HE7
  rw [hE] at HE7
  have hd0 := HV.out.blk.cell.1; have hd1 := HV.out.blk.cell.2
  have HRK := Lib.hid hrk; have HRY := Lib.hid hry
  clear hb hal hrk hry
  go_wp2_with fail
  clear hw7 hE
  refine (specWorldFrom_any a xs.length c (fun j => xs.getD j 0) _ HV.out.d.now).mono ?_
  intro e w8 hg8
  obtain ⟨g, cap, rfl, hi, hb⟩ := wd_gives HF.out hg8
  have HI := Lib.hid hi
  replace HV := Lib.hid (HV.out.kept hb); replace HBR := Lib.hid (HBR.out.kept hb HBR.out.lt); replace HB := Lib.hid (below_onto HB.out hb)
  replace HO := Lib.hid (HO.out.kept hb HO.out.lt); replace HB4 := Lib.hid (below_onto HB4.out hb)
  clear hg8 hi hb hd0 hd1
  go_wp2_with fail
  refine (l1Cut_any s 32 hs _).mono ?_
  rintro e w9 ⟨v, rfl, hown, hb⟩
  obtain ⟨a9, c9, rfl⟩ := hown.slice
  rw [List.length_map, HM.out]
  replace HV := Lib.hid (HV.out.kept hb); replace HBR := Lib.hid (HBR.out.kept hb HBR.out.lt); replace HB := Lib.hid (below_onto HB.out hb)
  replace HO := Lib.hid (HO.out.kept hb HO.out.lt); replace HB4 := Lib.hid (below_onto HB4.out hb)
  clear hown hb
  have ho0 := HO.out.cell.1; have ho1 := HO.out.cell.2
  have hr0 := HBR.out.cell.1; have hr1 := HBR.out.cell.2; have hr2 := HBR.out.frozen 0; have hr3 := HBR.out.frozen 1
  go_wp2_with fail
  refine bodyPost_ret (results_desk rfl _ _ (w.heap.size + 1) ((HBR.out.set0 _).set1 _) rfl rfl (by kernel_rfl)) rfl ?_
  exact ⟨_, _, retdt HE.out, HG.out.fin HB3.out (Nat.le_succ _) HLT.out HB4.out⟩
set_option maxRecDepth 100000 in
theorem specLine_whatp (d : Value) (xs : List Int) (L : List (List Int)) (s : ByteArray) (hs : s.size ≤ 1048600) (hdk : deskB xs L = true) (hrd : rdDB s.data.toList = false) (h0 : s.data.toList ≠ allW) (h1 : s.data.toList ≠ companyW) (h2 : s.data.toList ≠ weakW) (h3 : s.data.toList ≠ strongW) (h4 : s.data.toList ≠ summedW) (h5 : s.data.toList ≠ classicalW) (h6 : s.data.toList ≠ atomsW) (h7 : s.data.toList ≠ wholeW) (hw : (spL s.data.toList 32).length = 3) (hno : pA xs s.data.toList < 0) (w : World) (h : DeskR w d xs L) :
    Calls Tryz.prog 21 #[d, .string s] w (LineD xs L whatW w) := by
  have HDK := Lib.hid hdk; have HRD := Lib.hid hrd
  have hf := (deskB_iff.1 hdk).1
  have HF := Lib.hid hf
  have hl := famL_len hf
  have HE := Lib.hid (show ({ data := #[119, 104, 97, 116] } : ByteArray) = bs whatW from rfl)
  have kh0 : (s.toList == [97, 108, 108]) = false := by rw [eqW]; exact decide_eq_false h0
  have kh1 : (s.toList == [99, 111, 109, 112, 97, 110, 121]) = false := by rw [eqW]; exact decide_eq_false h1
  have kh2 : (s.toList == [119, 101, 97, 107]) = false := by rw [eqW]; exact decide_eq_false h2
  have kh3 : (s.toList == [115, 116, 114, 111, 110, 103]) = false := by rw [eqW]; exact decide_eq_false h3
  have kh4 : (s.toList == [115, 117, 109, 109, 101, 100]) = false := by rw [eqW]; exact decide_eq_false h4
  have kh5 : (s.toList == [99, 108, 97, 115, 115, 105, 99, 97, 108]) = false := by rw [eqW]; exact decide_eq_false h5
  have kh6 : (s.toList == [97, 116, 111, 109, 115]) = false := by rw [eqW]; exact decide_eq_false h6
  have kh7 : (s.toList == [119, 104, 111, 108, 101]) = false := by rw [eqW]; exact decide_eq_false h7
  have hsp := (three_words s.data.toList).1 hw
  obtain ⟨c1, hc1⟩ : ∃ c1, bs (cut1 s.data.toList) = c1 := ⟨_, rfl⟩
  obtain ⟨u1, hu1⟩ : ∃ u1, bs (cut1 (cut2 s.data.toList)) = u1 := ⟨_, rfl⟩
  obtain ⟨u2, hu2⟩ : ∃ u2, bs (cut2 (cut2 s.data.toList)) = u2 := ⟨_, rfl⟩
  have hspb : (spL s.data.toList 32).map bs = [c1, u1, u2] := by rw [hsp, ← hc1, ← hu1, ← hu2]; rfl
  have HSP := Lib.hid hspb
  obtain ⟨p, hp⟩ : ∃ p, pA xs s.data.toList = p := ⟨_, rfl⟩
  obtain ⟨q, hq⟩ : ∃ q, pB xs s.data.toList = q := ⟨_, rfl⟩
  have HP1 := Lib.hid (show plI xs (rdI u1.data.toList) = p from by rw [← hu1, ← hp]; rfl)
  have HP2 := Lib.hid (show plI xs (rdI u2.data.toList) = q from by rw [← hu2, ← hq]; rfl)
  have hcw : c1.data.toList = cut1 s.data.toList := by rw [← hc1]; rfl
  have hno1 : decide (p < 0) = true := decide_eq_true (by omega)
  clear hdk hrd hsp hc1 hu1 hu2 hspb hp hq hcw
  have hdd := h
  obtain ⟨a, c, b, c2, rfl, _⟩ := h.parts
  have q1 := alloc_below w (.cells #[.slice a xs.length c, .slice b L.length c2] 31)
  have q2 := alloc_below (w.alloc (.cells #[.slice a xs.length c, .slice b L.length c2] 31)) (.cells #[.slice none 0 0, .slice none 0 0] 31)
  have HV := Lib.hid ((VarD.new hdd).kept q2)
  have hbr := Blk2.new (w.alloc (.cells #[.slice a xs.length c, .slice b L.length c2] 31)) 31 (.slice none 0 0) (.slice none 0 0)
  rw [alloc_size] at hbr
  have HBR := Lib.hid hbr
  have HB := Lib.hid (below_onto q1 q2)
  obtain ⟨w2, hw2⟩ : ∃ w2, (w.alloc (.cells #[.slice a xs.length c, .slice b L.length c2] 31)).alloc (.cells #[.slice none 0 0, .slice none 0 0] 31) = w2 := ⟨_, rfl⟩
  rw [hw2] at HV HBR HB
  have hd0 := HV.out.blk.cell.1; have hd1 := HV.out.blk.cell.2
  clear h hdd q1 q2 hbr
  go_enter Tryz.func21, Tryz.ntmps21
  go_wp2_with fail
  clear hw2
  refine (specDeskOk_any _ xs L _ HV.out.d).mono ?_
  rintro e w3 ⟨rfl, hb⟩
  rw [HDK.out]
  replace HV := Lib.hid (HV.out.kept hb); replace HBR := Lib.hid (HBR.out.kept hb HBR.out.lt); replace HB := Lib.hid (below_onto HB.out hb)
  clear hb hd0 hd1
  have hd0 := HV.out.blk.cell.1; have hd1 := HV.out.blk.cell.2
  have HB3 := HB
  have HLT := Lib.hid (show w.heap.size + 1 < w3.heap.size from HBR.out.lt)
  go_wp2_with fail
  refine (l12Copy_any _ xs L HDK.out _ HV.out.d).mono ?_
  rintro e w4 ⟨v1, v2, rfl, hgo⟩
  have hg := hgo.desk
  obtain ⟨p1, e1, rfl⟩ := hg.one
  obtain ⟨p2, e2, rfl⟩ := hg.two
  have HG := Lib.hid hg
  have hal := alloc_below w4 (.cells #[.slice p1 xs.length e1, .slice p2 L.length e2] 31)
  have HO := Lib.hid (Blk2.new w4 31 (.slice p1 xs.length e1) (.slice p2 L.length e2))
  have HB4 := Lib.hid hal
  have hb := below_onto hg.below hal
  have HNO := Lib.hid (show w.heap.size + 1 < w4.heap.size from Nat.lt_of_lt_of_le HLT.out hg.below.size)
  replace HV := Lib.hid (HV.out.kept hb); replace HBR := Lib.hid (HBR.out.kept hb HBR.out.lt); replace HB := Lib.hid (below_onto HB.out hb)
  obtain ⟨w5, hw5⟩ : ∃ w5, w4.alloc (.cells #[.slice p1 xs.length e1, .slice p2 L.length e2] 31) = w5 := ⟨_, rfl⟩
  obtain ⟨O, hO⟩ : ∃ O, w4.heap.size = O := ⟨_, rfl⟩
  rw [hw5] at HV HBR HB HO HB4
  rw [hO] at HO HNO
  clear hgo hg hal hb hd0 hd1
  go_wp2_with fail
  clear hw5 hO
  refine (specReadDeed_any s hs _).mono ?_
  rintro e w6 ⟨rfl, hb⟩
  rw [HRD.out]
  obtain ⟨rk, hrk⟩ : ∃ rk, rdK s.data.toList = rk := ⟨_, rfl⟩
  obtain ⟨ry, hry⟩ : ∃ ry, rdY s.data.toList = ry := ⟨_, rfl⟩
  rw [hrk, hry]
  have hal := alloc_below w6 (.cells #[.int .i64 rk, .int .i64 ry] 39)
  have HE7 := Lib.hid (Blk2.new w6 39 (.int .i64 rk) (.int .i64 ry))
  replace hb := below_onto hb hal
  replace HV := Lib.hid (HV.out.kept hb); replace HBR := Lib.hid (HBR.out.kept hb HBR.out.lt); replace HB := Lib.hid (below_onto HB.out hb)
  replace HO := Lib.hid (HO.out.kept hb HO.out.lt); replace HB4 := Lib.hid (below_onto HB4.out hb)
  obtain ⟨w7, hw7⟩ : ∃ w7, w6.alloc (.cells #[.int .i64 rk, .int .i64 ry] 39) = w7 := ⟨_, rfl⟩
  obtain ⟨E, hE⟩ : ∃ E, w6.heap.size = E := ⟨_, rfl⟩
  rw [hw7] at HV HBR HB HO HB4 HE7
  rw [hE] at HE7
  have hd0 := HV.out.blk.cell.1; have hd1 := HV.out.blk.cell.2
  have HRK := Lib.hid hrk; have HRY := Lib.hid hry
  clear hb hal hrk hry
  go_wp2_with fail
  clear hw7 hE
  refine (specWorldFrom_any a xs.length c (fun j => xs.getD j 0) _ HV.out.d.now).mono ?_
  intro e w8 hg8
  obtain ⟨g, cap, rfl, hi, hb⟩ := wd_gives HF.out hg8
  have HI := Lib.hid hi
  replace HV := Lib.hid (HV.out.kept hb); replace HBR := Lib.hid (HBR.out.kept hb HBR.out.lt); replace HB := Lib.hid (below_onto HB.out hb)
  replace HO := Lib.hid (HO.out.kept hb HO.out.lt); replace HB4 := Lib.hid (below_onto HB4.out hb)
  clear hg8 hi hb hd0 hd1
  go_wp2_with fail
  refine (l1Cut_any s 32 hs _).mono ?_
  rintro e w9 ⟨v, rfl, hown, hb⟩
  rw [HSP.out] at hown
  obtain ⟨g9, c9, m, rfl, hm3, _, _, hx0, hx1, hx2⟩ := own3 hown
  replace HV := Lib.hid (HV.out.kept hb); replace HBR := Lib.hid (HBR.out.kept hb HBR.out.lt); replace HB := Lib.hid (below_onto HB.out hb)
  replace HO := Lib.hid (HO.out.kept hb HO.out.lt); replace HB4 := Lib.hid (below_onto HB4.out hb)
  clear hown hb
  have hne : ((m : Int) != 3) = false := by simp; omega
  have hb1 : (1 : Int) < (m : Int) := by omega
  have hb2 : (2 : Int) < (m : Int) := by omega
  have hb0 : (0 : Int) < (m : Int) := by omega
  clear hm3
  go_wp2_with fail
  refine (l12Place_any a c xs u1 _ HV.out.d.now).mono ?_
  rintro e w' ⟨rfl, rfl⟩
  rw [HP1.out]
  go_wp2_with fail
  refine (l12Place_any a c xs u2 _ HV.out.d.now).mono ?_
  rintro e w' ⟨rfl, rfl⟩
  rw [HP2.out]
  have ho0 := HO.out.cell.1; have ho1 := HO.out.cell.2
  have hr0 := HBR.out.cell.1; have hr1 := HBR.out.cell.2; have hr2 := HBR.out.frozen 0; have hr3 := HBR.out.frozen 1
  go_wp2_with fail
  refine bodyPost_ret (results_desk rfl _ _ (w.heap.size + 1) ((HBR.out.set0 _).set1 _) rfl rfl (by kernel_rfl)) rfl ?_
  exact ⟨_, _, retdt HE.out, HG.out.fin HB3.out (Nat.le_succ _) HLT.out HB4.out⟩
set_option maxRecDepth 100000 in
theorem specLine_whatq (d : Value) (xs : List Int) (L : List (List Int)) (s : ByteArray) (hs : s.size ≤ 1048600) (hdk : deskB xs L = true) (hrd : rdDB s.data.toList = false) (h0 : s.data.toList ≠ allW) (h1 : s.data.toList ≠ companyW) (h2 : s.data.toList ≠ weakW) (h3 : s.data.toList ≠ strongW) (h4 : s.data.toList ≠ summedW) (h5 : s.data.toList ≠ classicalW) (h6 : s.data.toList ≠ atomsW) (h7 : s.data.toList ≠ wholeW) (hw : (spL s.data.toList 32).length = 3) (hyes : 0 ≤ pA xs s.data.toList) (hno : pB xs s.data.toList < 0) (w : World) (h : DeskR w d xs L) :
    Calls Tryz.prog 21 #[d, .string s] w (LineD xs L whatW w) := by
  have HDK := Lib.hid hdk; have HRD := Lib.hid hrd
  have hf := (deskB_iff.1 hdk).1
  have HF := Lib.hid hf
  have hl := famL_len hf
  have HE := Lib.hid (show ({ data := #[119, 104, 97, 116] } : ByteArray) = bs whatW from rfl)
  have kh0 : (s.toList == [97, 108, 108]) = false := by rw [eqW]; exact decide_eq_false h0
  have kh1 : (s.toList == [99, 111, 109, 112, 97, 110, 121]) = false := by rw [eqW]; exact decide_eq_false h1
  have kh2 : (s.toList == [119, 101, 97, 107]) = false := by rw [eqW]; exact decide_eq_false h2
  have kh3 : (s.toList == [115, 116, 114, 111, 110, 103]) = false := by rw [eqW]; exact decide_eq_false h3
  have kh4 : (s.toList == [115, 117, 109, 109, 101, 100]) = false := by rw [eqW]; exact decide_eq_false h4
  have kh5 : (s.toList == [99, 108, 97, 115, 115, 105, 99, 97, 108]) = false := by rw [eqW]; exact decide_eq_false h5
  have kh6 : (s.toList == [97, 116, 111, 109, 115]) = false := by rw [eqW]; exact decide_eq_false h6
  have kh7 : (s.toList == [119, 104, 111, 108, 101]) = false := by rw [eqW]; exact decide_eq_false h7
  have hsp := (three_words s.data.toList).1 hw
  obtain ⟨c1, hc1⟩ : ∃ c1, bs (cut1 s.data.toList) = c1 := ⟨_, rfl⟩
  obtain ⟨u1, hu1⟩ : ∃ u1, bs (cut1 (cut2 s.data.toList)) = u1 := ⟨_, rfl⟩
  obtain ⟨u2, hu2⟩ : ∃ u2, bs (cut2 (cut2 s.data.toList)) = u2 := ⟨_, rfl⟩
  have hspb : (spL s.data.toList 32).map bs = [c1, u1, u2] := by rw [hsp, ← hc1, ← hu1, ← hu2]; rfl
  have HSP := Lib.hid hspb
  obtain ⟨p, hp⟩ : ∃ p, pA xs s.data.toList = p := ⟨_, rfl⟩
  obtain ⟨q, hq⟩ : ∃ q, pB xs s.data.toList = q := ⟨_, rfl⟩
  have HP1 := Lib.hid (show plI xs (rdI u1.data.toList) = p from by rw [← hu1, ← hp]; rfl)
  have HP2 := Lib.hid (show plI xs (rdI u2.data.toList) = q from by rw [← hu2, ← hq]; rfl)
  have hcw : c1.data.toList = cut1 s.data.toList := by rw [← hc1]; rfl
  have hno1 : decide (p < 0) = false := decide_eq_false (by omega)
  have hno2 : decide (q < 0) = true := decide_eq_true (by omega)
  clear hdk hrd hsp hc1 hu1 hu2 hspb hp hq hcw
  have hdd := h
  obtain ⟨a, c, b, c2, rfl, _⟩ := h.parts
  have q1 := alloc_below w (.cells #[.slice a xs.length c, .slice b L.length c2] 31)
  have q2 := alloc_below (w.alloc (.cells #[.slice a xs.length c, .slice b L.length c2] 31)) (.cells #[.slice none 0 0, .slice none 0 0] 31)
  have HV := Lib.hid ((VarD.new hdd).kept q2)
  have hbr := Blk2.new (w.alloc (.cells #[.slice a xs.length c, .slice b L.length c2] 31)) 31 (.slice none 0 0) (.slice none 0 0)
  rw [alloc_size] at hbr
  have HBR := Lib.hid hbr
  have HB := Lib.hid (below_onto q1 q2)
  obtain ⟨w2, hw2⟩ : ∃ w2, (w.alloc (.cells #[.slice a xs.length c, .slice b L.length c2] 31)).alloc (.cells #[.slice none 0 0, .slice none 0 0] 31) = w2 := ⟨_, rfl⟩
  rw [hw2] at HV HBR HB
  have hd0 := HV.out.blk.cell.1; have hd1 := HV.out.blk.cell.2
  clear h hdd q1 q2 hbr
  go_enter Tryz.func21, Tryz.ntmps21
  go_wp2_with fail
  clear hw2
  refine (specDeskOk_any _ xs L _ HV.out.d).mono ?_
  rintro e w3 ⟨rfl, hb⟩
  rw [HDK.out]
  replace HV := Lib.hid (HV.out.kept hb); replace HBR := Lib.hid (HBR.out.kept hb HBR.out.lt); replace HB := Lib.hid (below_onto HB.out hb)
  clear hb hd0 hd1
  have hd0 := HV.out.blk.cell.1; have hd1 := HV.out.blk.cell.2
  have HB3 := HB
  have HLT := Lib.hid (show w.heap.size + 1 < w3.heap.size from HBR.out.lt)
  go_wp2_with fail
  refine (l12Copy_any _ xs L HDK.out _ HV.out.d).mono ?_
  rintro e w4 ⟨v1, v2, rfl, hgo⟩
  have hg := hgo.desk
  obtain ⟨p1, e1, rfl⟩ := hg.one
  obtain ⟨p2, e2, rfl⟩ := hg.two
  have HG := Lib.hid hg
  have hal := alloc_below w4 (.cells #[.slice p1 xs.length e1, .slice p2 L.length e2] 31)
  have HO := Lib.hid (Blk2.new w4 31 (.slice p1 xs.length e1) (.slice p2 L.length e2))
  have HB4 := Lib.hid hal
  have hb := below_onto hg.below hal
  have HNO := Lib.hid (show w.heap.size + 1 < w4.heap.size from Nat.lt_of_lt_of_le HLT.out hg.below.size)
  replace HV := Lib.hid (HV.out.kept hb); replace HBR := Lib.hid (HBR.out.kept hb HBR.out.lt); replace HB := Lib.hid (below_onto HB.out hb)
  obtain ⟨w5, hw5⟩ : ∃ w5, w4.alloc (.cells #[.slice p1 xs.length e1, .slice p2 L.length e2] 31) = w5 := ⟨_, rfl⟩
  obtain ⟨O, hO⟩ : ∃ O, w4.heap.size = O := ⟨_, rfl⟩
  rw [hw5] at HV HBR HB HO HB4
  rw [hO] at HO HNO
  clear hgo hg hal hb hd0 hd1
  go_wp2_with fail
  clear hw5 hO
  refine (specReadDeed_any s hs _).mono ?_
  rintro e w6 ⟨rfl, hb⟩
  rw [HRD.out]
  obtain ⟨rk, hrk⟩ : ∃ rk, rdK s.data.toList = rk := ⟨_, rfl⟩
  obtain ⟨ry, hry⟩ : ∃ ry, rdY s.data.toList = ry := ⟨_, rfl⟩
  rw [hrk, hry]
  have hal := alloc_below w6 (.cells #[.int .i64 rk, .int .i64 ry] 39)
  have HE7 := Lib.hid (Blk2.new w6 39 (.int .i64 rk) (.int .i64 ry))
  replace hb := below_onto hb hal
  replace HV := Lib.hid (HV.out.kept hb); replace HBR := Lib.hid (HBR.out.kept hb HBR.out.lt); replace HB := Lib.hid (below_onto HB.out hb)
  replace HO := Lib.hid (HO.out.kept hb HO.out.lt); replace HB4 := Lib.hid (below_onto HB4.out hb)
  obtain ⟨w7, hw7⟩ : ∃ w7, w6.alloc (.cells #[.int .i64 rk, .int .i64 ry] 39) = w7 := ⟨_, rfl⟩
  obtain ⟨E, hE⟩ : ∃ E, w6.heap.size = E := ⟨_, rfl⟩
  rw [hw7] at HV HBR HB HO HB4 HE7
  rw [hE] at HE7
  have hd0 := HV.out.blk.cell.1; have hd1 := HV.out.blk.cell.2
  have HRK := Lib.hid hrk; have HRY := Lib.hid hry
  clear hb hal hrk hry
  go_wp2_with fail
  clear hw7 hE
  refine (specWorldFrom_any a xs.length c (fun j => xs.getD j 0) _ HV.out.d.now).mono ?_
  intro e w8 hg8
  obtain ⟨g, cap, rfl, hi, hb⟩ := wd_gives HF.out hg8
  have HI := Lib.hid hi
  replace HV := Lib.hid (HV.out.kept hb); replace HBR := Lib.hid (HBR.out.kept hb HBR.out.lt); replace HB := Lib.hid (below_onto HB.out hb)
  replace HO := Lib.hid (HO.out.kept hb HO.out.lt); replace HB4 := Lib.hid (below_onto HB4.out hb)
  clear hg8 hi hb hd0 hd1
  go_wp2_with fail
  refine (l1Cut_any s 32 hs _).mono ?_
  rintro e w9 ⟨v, rfl, hown, hb⟩
  rw [HSP.out] at hown
  obtain ⟨g9, c9, m, rfl, hm3, _, _, hx0, hx1, hx2⟩ := own3 hown
  replace HV := Lib.hid (HV.out.kept hb); replace HBR := Lib.hid (HBR.out.kept hb HBR.out.lt); replace HB := Lib.hid (below_onto HB.out hb)
  replace HO := Lib.hid (HO.out.kept hb HO.out.lt); replace HB4 := Lib.hid (below_onto HB4.out hb)
  clear hown hb
  have hne : ((m : Int) != 3) = false := by simp; omega
  have hb1 : (1 : Int) < (m : Int) := by omega
  have hb2 : (2 : Int) < (m : Int) := by omega
  have hb0 : (0 : Int) < (m : Int) := by omega
  clear hm3
  go_wp2_with fail
  refine (l12Place_any a c xs u1 _ HV.out.d.now).mono ?_
  rintro e w' ⟨rfl, rfl⟩
  rw [HP1.out]
  go_wp2_with fail
  refine (l12Place_any a c xs u2 _ HV.out.d.now).mono ?_
  rintro e w' ⟨rfl, rfl⟩
  rw [HP2.out]
  have ho0 := HO.out.cell.1; have ho1 := HO.out.cell.2
  have hr0 := HBR.out.cell.1; have hr1 := HBR.out.cell.2; have hr2 := HBR.out.frozen 0; have hr3 := HBR.out.frozen 1
  go_wp2_with fail
  refine bodyPost_ret (results_desk rfl _ _ (w.heap.size + 1) ((HBR.out.set0 _).set1 _) rfl rfl (by kernel_rfl)) rfl ?_
  exact ⟨_, _, retdt HE.out, HG.out.fin HB3.out (Nat.le_succ _) HLT.out HB4.out⟩
set_option maxRecDepth 100000 in
theorem specLine_whatw (d : Value) (xs : List Int) (L : List (List Int)) (s : ByteArray) (hs : s.size ≤ 1048600) (hdk : deskB xs L = true) (hrd : rdDB s.data.toList = false) (h0 : s.data.toList ≠ allW) (h1 : s.data.toList ≠ companyW) (h2 : s.data.toList ≠ weakW) (h3 : s.data.toList ≠ strongW) (h4 : s.data.toList ≠ summedW) (h5 : s.data.toList ≠ classicalW) (h6 : s.data.toList ≠ atomsW) (h7 : s.data.toList ≠ wholeW) (hw : (spL s.data.toList 32).length = 3) (X Y : Nat) (hX : pA xs s.data.toList = X) (hY : pB xs s.data.toList = Y) (g0 : cut1 s.data.toList ≠ sumW) (g1 : cut1 s.data.toList ≠ commonW) (g2 : cut1 s.data.toList ≠ leftW) (w : World) (h : DeskR w d xs L) :
    Calls Tryz.prog 21 #[d, .string s] w (LineD xs L whatW w) := by
  have HDK := Lib.hid hdk; have HRD := Lib.hid hrd
  have hf := (deskB_iff.1 hdk).1
  have HF := Lib.hid hf
  have hl := famL_len hf
  have HE := Lib.hid (show ({ data := #[119, 104, 97, 116] } : ByteArray) = bs whatW from rfl)
  have kh0 : (s.toList == [97, 108, 108]) = false := by rw [eqW]; exact decide_eq_false h0
  have kh1 : (s.toList == [99, 111, 109, 112, 97, 110, 121]) = false := by rw [eqW]; exact decide_eq_false h1
  have kh2 : (s.toList == [119, 101, 97, 107]) = false := by rw [eqW]; exact decide_eq_false h2
  have kh3 : (s.toList == [115, 116, 114, 111, 110, 103]) = false := by rw [eqW]; exact decide_eq_false h3
  have kh4 : (s.toList == [115, 117, 109, 109, 101, 100]) = false := by rw [eqW]; exact decide_eq_false h4
  have kh5 : (s.toList == [99, 108, 97, 115, 115, 105, 99, 97, 108]) = false := by rw [eqW]; exact decide_eq_false h5
  have kh6 : (s.toList == [97, 116, 111, 109, 115]) = false := by rw [eqW]; exact decide_eq_false h6
  have kh7 : (s.toList == [119, 104, 111, 108, 101]) = false := by rw [eqW]; exact decide_eq_false h7
  have hsp := (three_words s.data.toList).1 hw
  obtain ⟨c1, hc1⟩ : ∃ c1, bs (cut1 s.data.toList) = c1 := ⟨_, rfl⟩
  obtain ⟨u1, hu1⟩ : ∃ u1, bs (cut1 (cut2 s.data.toList)) = u1 := ⟨_, rfl⟩
  obtain ⟨u2, hu2⟩ : ∃ u2, bs (cut2 (cut2 s.data.toList)) = u2 := ⟨_, rfl⟩
  have hspb : (spL s.data.toList 32).map bs = [c1, u1, u2] := by rw [hsp, ← hc1, ← hu1, ← hu2]; rfl
  have HSP := Lib.hid hspb
  obtain ⟨p, hp⟩ : ∃ p, pA xs s.data.toList = p := ⟨_, rfl⟩
  obtain ⟨q, hq⟩ : ∃ q, pB xs s.data.toList = q := ⟨_, rfl⟩
  have HP1 := Lib.hid (show plI xs (rdI u1.data.toList) = p from by rw [← hu1, ← hp]; rfl)
  have HP2 := Lib.hid (show plI xs (rdI u2.data.toList) = q from by rw [← hu2, ← hq]; rfl)
  have hcw : c1.data.toList = cut1 s.data.toList := by rw [← hc1]; rfl
  rw [hp] at hX
  rw [hq] at hY
  subst hX; subst hY
  have hno1 : decide ((X : Int) < 0) = false := decide_eq_false (by omega)
  have hno2 : decide ((Y : Int) < 0) = false := decide_eq_false (by omega)
  have kt0 : (c1.toList == [115, 117, 109]) = false := by rw [eqW, hcw]; exact decide_eq_false g0
  have kt1 : (c1.toList == [99, 111, 109, 109, 111, 110]) = false := by rw [eqW, hcw]; exact decide_eq_false g1
  have kt2 : (c1.toList == [108, 101, 102, 116]) = false := by rw [eqW, hcw]; exact decide_eq_false g2
  clear hdk hrd hsp hc1 hu1 hu2 hspb hp hq hcw
  have hdd := h
  obtain ⟨a, c, b, c2, rfl, _⟩ := h.parts
  have q1 := alloc_below w (.cells #[.slice a xs.length c, .slice b L.length c2] 31)
  have q2 := alloc_below (w.alloc (.cells #[.slice a xs.length c, .slice b L.length c2] 31)) (.cells #[.slice none 0 0, .slice none 0 0] 31)
  have HV := Lib.hid ((VarD.new hdd).kept q2)
  have hbr := Blk2.new (w.alloc (.cells #[.slice a xs.length c, .slice b L.length c2] 31)) 31 (.slice none 0 0) (.slice none 0 0)
  rw [alloc_size] at hbr
  have HBR := Lib.hid hbr
  have HB := Lib.hid (below_onto q1 q2)
  obtain ⟨w2, hw2⟩ : ∃ w2, (w.alloc (.cells #[.slice a xs.length c, .slice b L.length c2] 31)).alloc (.cells #[.slice none 0 0, .slice none 0 0] 31) = w2 := ⟨_, rfl⟩
  rw [hw2] at HV HBR HB
  have hd0 := HV.out.blk.cell.1; have hd1 := HV.out.blk.cell.2
  clear h hdd q1 q2 hbr
  go_enter Tryz.func21, Tryz.ntmps21
  go_wp2_with fail
  clear hw2
  refine (specDeskOk_any _ xs L _ HV.out.d).mono ?_
  rintro e w3 ⟨rfl, hb⟩
  rw [HDK.out]
  replace HV := Lib.hid (HV.out.kept hb); replace HBR := Lib.hid (HBR.out.kept hb HBR.out.lt); replace HB := Lib.hid (below_onto HB.out hb)
  clear hb hd0 hd1
  have hd0 := HV.out.blk.cell.1; have hd1 := HV.out.blk.cell.2
  have HB3 := HB
  have HLT := Lib.hid (show w.heap.size + 1 < w3.heap.size from HBR.out.lt)
  go_wp2_with fail
  refine (l12Copy_any _ xs L HDK.out _ HV.out.d).mono ?_
  rintro e w4 ⟨v1, v2, rfl, hgo⟩
  have hg := hgo.desk
  obtain ⟨p1, e1, rfl⟩ := hg.one
  obtain ⟨p2, e2, rfl⟩ := hg.two
  have HG := Lib.hid hg
  have hal := alloc_below w4 (.cells #[.slice p1 xs.length e1, .slice p2 L.length e2] 31)
  have HO := Lib.hid (Blk2.new w4 31 (.slice p1 xs.length e1) (.slice p2 L.length e2))
  have HB4 := Lib.hid hal
  have hb := below_onto hg.below hal
  have HNO := Lib.hid (show w.heap.size + 1 < w4.heap.size from Nat.lt_of_lt_of_le HLT.out hg.below.size)
  replace HV := Lib.hid (HV.out.kept hb); replace HBR := Lib.hid (HBR.out.kept hb HBR.out.lt); replace HB := Lib.hid (below_onto HB.out hb)
  obtain ⟨w5, hw5⟩ : ∃ w5, w4.alloc (.cells #[.slice p1 xs.length e1, .slice p2 L.length e2] 31) = w5 := ⟨_, rfl⟩
  obtain ⟨O, hO⟩ : ∃ O, w4.heap.size = O := ⟨_, rfl⟩
  rw [hw5] at HV HBR HB HO HB4
  rw [hO] at HO HNO
  clear hgo hg hal hb hd0 hd1
  go_wp2_with fail
  clear hw5 hO
  refine (specReadDeed_any s hs _).mono ?_
  rintro e w6 ⟨rfl, hb⟩
  rw [HRD.out]
  obtain ⟨rk, hrk⟩ : ∃ rk, rdK s.data.toList = rk := ⟨_, rfl⟩
  obtain ⟨ry, hry⟩ : ∃ ry, rdY s.data.toList = ry := ⟨_, rfl⟩
  rw [hrk, hry]
  have hal := alloc_below w6 (.cells #[.int .i64 rk, .int .i64 ry] 39)
  have HE7 := Lib.hid (Blk2.new w6 39 (.int .i64 rk) (.int .i64 ry))
  replace hb := below_onto hb hal
  replace HV := Lib.hid (HV.out.kept hb); replace HBR := Lib.hid (HBR.out.kept hb HBR.out.lt); replace HB := Lib.hid (below_onto HB.out hb)
  replace HO := Lib.hid (HO.out.kept hb HO.out.lt); replace HB4 := Lib.hid (below_onto HB4.out hb)
  obtain ⟨w7, hw7⟩ : ∃ w7, w6.alloc (.cells #[.int .i64 rk, .int .i64 ry] 39) = w7 := ⟨_, rfl⟩
  obtain ⟨E, hE⟩ : ∃ E, w6.heap.size = E := ⟨_, rfl⟩
  rw [hw7] at HV HBR HB HO HB4 HE7
  rw [hE] at HE7
  have hd0 := HV.out.blk.cell.1; have hd1 := HV.out.blk.cell.2
  have HRK := Lib.hid hrk; have HRY := Lib.hid hry
  clear hb hal hrk hry
  go_wp2_with fail
  clear hw7 hE
  refine (specWorldFrom_any a xs.length c (fun j => xs.getD j 0) _ HV.out.d.now).mono ?_
  intro e w8 hg8
  obtain ⟨g, cap, rfl, hi, hb⟩ := wd_gives HF.out hg8
  have HI := Lib.hid hi
  replace HV := Lib.hid (HV.out.kept hb); replace HBR := Lib.hid (HBR.out.kept hb HBR.out.lt); replace HB := Lib.hid (below_onto HB.out hb)
  replace HO := Lib.hid (HO.out.kept hb HO.out.lt); replace HB4 := Lib.hid (below_onto HB4.out hb)
  clear hg8 hi hb hd0 hd1
  go_wp2_with fail
  refine (l1Cut_any s 32 hs _).mono ?_
  rintro e w9 ⟨v, rfl, hown, hb⟩
  rw [HSP.out] at hown
  obtain ⟨g9, c9, m, rfl, hm3, _, _, hx0, hx1, hx2⟩ := own3 hown
  replace HV := Lib.hid (HV.out.kept hb); replace HBR := Lib.hid (HBR.out.kept hb HBR.out.lt); replace HB := Lib.hid (below_onto HB.out hb)
  replace HO := Lib.hid (HO.out.kept hb HO.out.lt); replace HB4 := Lib.hid (below_onto HB4.out hb)
  clear hown hb
  have hne : ((m : Int) != 3) = false := by simp; omega
  have hb1 : (1 : Int) < (m : Int) := by omega
  have hb2 : (2 : Int) < (m : Int) := by omega
  have hb0 : (0 : Int) < (m : Int) := by omega
  clear hm3
  go_wp2_with fail
  refine (l12Place_any a c xs u1 _ HV.out.d.now).mono ?_
  rintro e w' ⟨rfl, rfl⟩
  rw [HP1.out]
  go_wp2_with fail
  refine (l12Place_any a c xs u2 _ HV.out.d.now).mono ?_
  rintro e w' ⟨rfl, rfl⟩
  rw [HP2.out]
  have ho0 := HO.out.cell.1; have ho1 := HO.out.cell.2
  have hr0 := HBR.out.cell.1; have hr1 := HBR.out.cell.2; have hr2 := HBR.out.frozen 0; have hr3 := HBR.out.frozen 1
  go_wp2_with fail
  refine bodyPost_ret (results_desk rfl _ _ (w.heap.size + 1) ((HBR.out.set0 _).set1 _) rfl rfl (by kernel_rfl)) rfl ?_
  exact ⟨_, _, retdt HE.out, HG.out.fin HB3.out (Nat.le_succ _) HLT.out HB4.out⟩
set_option maxRecDepth 100000 in
theorem specLine_common0 (d : Value) (xs : List Int) (L : List (List Int)) (s : ByteArray) (hs : s.size ≤ 1048600) (hdk : deskB xs L = true) (hrd : rdDB s.data.toList = false) (h0 : s.data.toList ≠ allW) (h1 : s.data.toList ≠ companyW) (h2 : s.data.toList ≠ weakW) (h3 : s.data.toList ≠ strongW) (h4 : s.data.toList ≠ summedW) (h5 : s.data.toList ≠ classicalW) (h6 : s.data.toList ≠ atomsW) (h7 : s.data.toList ≠ wholeW) (hw : (spL s.data.toList 32).length = 3) (X Y : Nat) (hX : pA xs s.data.toList = X) (hY : pB xs s.data.toList = Y) (g0 : cut1 s.data.toList ≠ sumW) (g1 : cut1 s.data.toList = commonW) (ho : commonOk xs.length (wdF xs) X Y = false) (w : World) (h : DeskR w d xs L) :
    Calls Tryz.prog 21 #[d, .string s] w (LineD xs L noneW w) := by
  have HDK := Lib.hid hdk; have HRD := Lib.hid hrd
  have hf := (deskB_iff.1 hdk).1
  have HF := Lib.hid hf
  have hl := famL_len hf
  have HE := Lib.hid (show ({ data := #[110, 111, 110, 101] } : ByteArray) = bs noneW from rfl)
  obtain ⟨i, hi⟩ : ∃ i, commonN xs.length (wdF xs) X Y = i := ⟨_, rfl⟩
  have HI1 := Lib.hid hi; have HI2 := Lib.hid ho
  have kh0 : (s.toList == [97, 108, 108]) = false := by rw [eqW]; exact decide_eq_false h0
  have kh1 : (s.toList == [99, 111, 109, 112, 97, 110, 121]) = false := by rw [eqW]; exact decide_eq_false h1
  have kh2 : (s.toList == [119, 101, 97, 107]) = false := by rw [eqW]; exact decide_eq_false h2
  have kh3 : (s.toList == [115, 116, 114, 111, 110, 103]) = false := by rw [eqW]; exact decide_eq_false h3
  have kh4 : (s.toList == [115, 117, 109, 109, 101, 100]) = false := by rw [eqW]; exact decide_eq_false h4
  have kh5 : (s.toList == [99, 108, 97, 115, 115, 105, 99, 97, 108]) = false := by rw [eqW]; exact decide_eq_false h5
  have kh6 : (s.toList == [97, 116, 111, 109, 115]) = false := by rw [eqW]; exact decide_eq_false h6
  have kh7 : (s.toList == [119, 104, 111, 108, 101]) = false := by rw [eqW]; exact decide_eq_false h7
  have hsp := (three_words s.data.toList).1 hw
  obtain ⟨c1, hc1⟩ : ∃ c1, bs (cut1 s.data.toList) = c1 := ⟨_, rfl⟩
  obtain ⟨u1, hu1⟩ : ∃ u1, bs (cut1 (cut2 s.data.toList)) = u1 := ⟨_, rfl⟩
  obtain ⟨u2, hu2⟩ : ∃ u2, bs (cut2 (cut2 s.data.toList)) = u2 := ⟨_, rfl⟩
  have hspb : (spL s.data.toList 32).map bs = [c1, u1, u2] := by rw [hsp, ← hc1, ← hu1, ← hu2]; rfl
  have HSP := Lib.hid hspb
  obtain ⟨p, hp⟩ : ∃ p, pA xs s.data.toList = p := ⟨_, rfl⟩
  obtain ⟨q, hq⟩ : ∃ q, pB xs s.data.toList = q := ⟨_, rfl⟩
  have HP1 := Lib.hid (show plI xs (rdI u1.data.toList) = p from by rw [← hu1, ← hp]; rfl)
  have HP2 := Lib.hid (show plI xs (rdI u2.data.toList) = q from by rw [← hu2, ← hq]; rfl)
  have hcw : c1.data.toList = cut1 s.data.toList := by rw [← hc1]; rfl
  rw [hp] at hX
  rw [hq] at hY
  subst hX; subst hY
  have hno1 : decide ((X : Int) < 0) = false := decide_eq_false (by omega)
  have hno2 : decide ((Y : Int) < 0) = false := decide_eq_false (by omega)
  have kt0 : (c1.toList == [115, 117, 109]) = false := by rw [eqW, hcw]; exact decide_eq_false g0
  have kt1 : (c1.toList == [99, 111, 109, 109, 111, 110]) = true := by rw [eqW, hcw]; exact decide_eq_true g1
  clear hdk hrd hsp hc1 hu1 hu2 hspb hp hq hcw
  clear hi ho
  have hdd := h
  obtain ⟨a, c, b, c2, rfl, _⟩ := h.parts
  have q1 := alloc_below w (.cells #[.slice a xs.length c, .slice b L.length c2] 31)
  have q2 := alloc_below (w.alloc (.cells #[.slice a xs.length c, .slice b L.length c2] 31)) (.cells #[.slice none 0 0, .slice none 0 0] 31)
  have HV := Lib.hid ((VarD.new hdd).kept q2)
  have hbr := Blk2.new (w.alloc (.cells #[.slice a xs.length c, .slice b L.length c2] 31)) 31 (.slice none 0 0) (.slice none 0 0)
  rw [alloc_size] at hbr
  have HBR := Lib.hid hbr
  have HB := Lib.hid (below_onto q1 q2)
  obtain ⟨w2, hw2⟩ : ∃ w2, (w.alloc (.cells #[.slice a xs.length c, .slice b L.length c2] 31)).alloc (.cells #[.slice none 0 0, .slice none 0 0] 31) = w2 := ⟨_, rfl⟩
  rw [hw2] at HV HBR HB
  have hd0 := HV.out.blk.cell.1; have hd1 := HV.out.blk.cell.2
  clear h hdd q1 q2 hbr
  go_enter Tryz.func21, Tryz.ntmps21
  go_wp2_with fail
  clear hw2
  refine (specDeskOk_any _ xs L _ HV.out.d).mono ?_
  rintro e w3 ⟨rfl, hb⟩
  rw [HDK.out]
  replace HV := Lib.hid (HV.out.kept hb); replace HBR := Lib.hid (HBR.out.kept hb HBR.out.lt); replace HB := Lib.hid (below_onto HB.out hb)
  clear hb hd0 hd1
  have hd0 := HV.out.blk.cell.1; have hd1 := HV.out.blk.cell.2
  have HB3 := HB
  have HLT := Lib.hid (show w.heap.size + 1 < w3.heap.size from HBR.out.lt)
  go_wp2_with fail
  refine (l12Copy_any _ xs L HDK.out _ HV.out.d).mono ?_
  rintro e w4 ⟨v1, v2, rfl, hgo⟩
  have hg := hgo.desk
  obtain ⟨p1, e1, rfl⟩ := hg.one
  obtain ⟨p2, e2, rfl⟩ := hg.two
  have HG := Lib.hid hg
  have hal := alloc_below w4 (.cells #[.slice p1 xs.length e1, .slice p2 L.length e2] 31)
  have HO := Lib.hid (Blk2.new w4 31 (.slice p1 xs.length e1) (.slice p2 L.length e2))
  have HB4 := Lib.hid hal
  have hb := below_onto hg.below hal
  have HNO := Lib.hid (show w.heap.size + 1 < w4.heap.size from Nat.lt_of_lt_of_le HLT.out hg.below.size)
  replace HV := Lib.hid (HV.out.kept hb); replace HBR := Lib.hid (HBR.out.kept hb HBR.out.lt); replace HB := Lib.hid (below_onto HB.out hb)
  obtain ⟨w5, hw5⟩ : ∃ w5, w4.alloc (.cells #[.slice p1 xs.length e1, .slice p2 L.length e2] 31) = w5 := ⟨_, rfl⟩
  obtain ⟨O, hO⟩ : ∃ O, w4.heap.size = O := ⟨_, rfl⟩
  rw [hw5] at HV HBR HB HO HB4
  rw [hO] at HO HNO
  clear hgo hg hal hb hd0 hd1
  go_wp2_with fail
  clear hw5 hO
  refine (specReadDeed_any s hs _).mono ?_
  rintro e w6 ⟨rfl, hb⟩
  rw [HRD.out]
  obtain ⟨rk, hrk⟩ : ∃ rk, rdK s.data.toList = rk := ⟨_, rfl⟩
  obtain ⟨ry, hry⟩ : ∃ ry, rdY s.data.toList = ry := ⟨_, rfl⟩
  rw [hrk, hry]
  have hal := alloc_below w6 (.cells #[.int .i64 rk, .int .i64 ry] 39)
  have HE7 := Lib.hid (Blk2.new w6 39 (.int .i64 rk) (.int .i64 ry))
  replace hb := below_onto hb hal
  replace HV := Lib.hid (HV.out.kept hb); replace HBR := Lib.hid (HBR.out.kept hb HBR.out.lt); replace HB := Lib.hid (below_onto HB.out hb)
  replace HO := Lib.hid (HO.out.kept hb HO.out.lt); replace HB4 := Lib.hid (below_onto HB4.out hb)
  obtain ⟨w7, hw7⟩ : ∃ w7, w6.alloc (.cells #[.int .i64 rk, .int .i64 ry] 39) = w7 := ⟨_, rfl⟩
  obtain ⟨E, hE⟩ : ∃ E, w6.heap.size = E := ⟨_, rfl⟩
  rw [hw7] at HV HBR HB HO HB4 HE7
  rw [hE] at HE7
  have hd0 := HV.out.blk.cell.1; have hd1 := HV.out.blk.cell.2
  have HRK := Lib.hid hrk; have HRY := Lib.hid hry
  clear hb hal hrk hry
  go_wp2_with fail
  clear hw7 hE
  refine (specWorldFrom_any a xs.length c (fun j => xs.getD j 0) _ HV.out.d.now).mono ?_
  intro e w8 hg8
  obtain ⟨g, cap, rfl, hi, hb⟩ := wd_gives HF.out hg8
  have HI := Lib.hid hi
  replace HV := Lib.hid (HV.out.kept hb); replace HBR := Lib.hid (HBR.out.kept hb HBR.out.lt); replace HB := Lib.hid (below_onto HB.out hb)
  replace HO := Lib.hid (HO.out.kept hb HO.out.lt); replace HB4 := Lib.hid (below_onto HB4.out hb)
  clear hg8 hi hb hd0 hd1
  go_wp2_with fail
  refine (l1Cut_any s 32 hs _).mono ?_
  rintro e w9 ⟨v, rfl, hown, hb⟩
  rw [HSP.out] at hown
  obtain ⟨g9, c9, m, rfl, hm3, _, _, hx0, hx1, hx2⟩ := own3 hown
  replace HV := Lib.hid (HV.out.kept hb); replace HBR := Lib.hid (HBR.out.kept hb HBR.out.lt); replace HB := Lib.hid (below_onto HB.out hb)
  replace HO := Lib.hid (HO.out.kept hb HO.out.lt); replace HB4 := Lib.hid (below_onto HB4.out hb)
  have HBX := Lib.hid hb
  clear hown hb
  have hne : ((m : Int) != 3) = false := by simp; omega
  have hb1 : (1 : Int) < (m : Int) := by omega
  have hb2 : (2 : Int) < (m : Int) := by omega
  have hb0 : (0 : Int) < (m : Int) := by omega
  clear hm3
  go_wp2_with fail
  refine (l12Place_any a c xs u1 _ HV.out.d.now).mono ?_
  rintro e w' ⟨rfl, rfl⟩
  rw [HP1.out]
  go_wp2_with fail
  refine (l12Place_any a c xs u2 _ HV.out.d.now).mono ?_
  rintro e w' ⟨rfl, rfl⟩
  rw [HP2.out]
  go_wp2_with fail
  refine (specCommonOf_val _ _ _ _ X Y i false _ HI1.out HI2.out (HI.out.below HBX.out (Nat.le_refl _))).mono ?_
  rintro e w10 ⟨rfl, hd⟩
  have hb := hd.below
  replace HV := Lib.hid (HV.out.kept hb); replace HBR := Lib.hid (HBR.out.kept hb HBR.out.lt); replace HB := Lib.hid (below_onto HB.out hb)
  replace HO := Lib.hid (HO.out.kept hb HO.out.lt); replace HB4 := Lib.hid (below_onto HB4.out hb)
  clear hb hd
  have ho0 := HO.out.cell.1; have ho1 := HO.out.cell.2
  have hr0 := HBR.out.cell.1; have hr1 := HBR.out.cell.2; have hr2 := HBR.out.frozen 0; have hr3 := HBR.out.frozen 1
  go_wp2_with fail
  refine bodyPost_ret (results_desk rfl _ _ (w.heap.size + 1) ((HBR.out.set0 _).set1 _) rfl rfl (by kernel_rfl)) rfl ?_
  exact ⟨_, _, retdt HE.out, HG.out.fin HB3.out (Nat.le_succ _) HLT.out HB4.out⟩
set_option maxRecDepth 100000 in
theorem specLine_common1 (d : Value) (xs : List Int) (L : List (List Int)) (s : ByteArray) (hs : s.size ≤ 1048600) (hdk : deskB xs L = true) (hrd : rdDB s.data.toList = false) (h0 : s.data.toList ≠ allW) (h1 : s.data.toList ≠ companyW) (h2 : s.data.toList ≠ weakW) (h3 : s.data.toList ≠ strongW) (h4 : s.data.toList ≠ summedW) (h5 : s.data.toList ≠ classicalW) (h6 : s.data.toList ≠ atomsW) (h7 : s.data.toList ≠ wholeW) (hw : (spL s.data.toList 32).length = 3) (X Y : Nat) (hX : pA xs s.data.toList = X) (hY : pB xs s.data.toList = Y) (g0 : cut1 s.data.toList ≠ sumW) (g1 : cut1 s.data.toList = commonW) (C : Nat) (hC : C < xs.length) (hN : commonN xs.length (wdF xs) X Y = C) (ho : commonOk xs.length (wdF xs) X Y = true) (w : World) (h : DeskR w d xs L) :
    Calls Tryz.prog 21 #[d, .string s] w (LineD xs L (setL (xs.getD C 0)) w) := by
  have HDK := Lib.hid hdk; have HRD := Lib.hid hrd
  have hf := (deskB_iff.1 hdk).1
  have HF := Lib.hid hf
  have hl := famL_len hf
  obtain ⟨ta, hta⟩ : ∃ ta, bs (setL (xs.getD C 0)) = ta := ⟨_, rfl⟩
  unfold LineD
  rw [hta]
  obtain ⟨z, hz⟩ : ∃ z, xs.getD C 0 = z := ⟨_, rfl⟩
  have HSE := Lib.hid (show setT z = ta from by rw [← hta, hz]; rfl)
  have HZ0 := Lib.hid hz; have HC := Lib.hid hC
  have HI1 := Lib.hid hN; have HI2 := Lib.hid ho
  have kh0 : (s.toList == [97, 108, 108]) = false := by rw [eqW]; exact decide_eq_false h0
  have kh1 : (s.toList == [99, 111, 109, 112, 97, 110, 121]) = false := by rw [eqW]; exact decide_eq_false h1
  have kh2 : (s.toList == [119, 101, 97, 107]) = false := by rw [eqW]; exact decide_eq_false h2
  have kh3 : (s.toList == [115, 116, 114, 111, 110, 103]) = false := by rw [eqW]; exact decide_eq_false h3
  have kh4 : (s.toList == [115, 117, 109, 109, 101, 100]) = false := by rw [eqW]; exact decide_eq_false h4
  have kh5 : (s.toList == [99, 108, 97, 115, 115, 105, 99, 97, 108]) = false := by rw [eqW]; exact decide_eq_false h5
  have kh6 : (s.toList == [97, 116, 111, 109, 115]) = false := by rw [eqW]; exact decide_eq_false h6
  have kh7 : (s.toList == [119, 104, 111, 108, 101]) = false := by rw [eqW]; exact decide_eq_false h7
  have hsp := (three_words s.data.toList).1 hw
  obtain ⟨c1, hc1⟩ : ∃ c1, bs (cut1 s.data.toList) = c1 := ⟨_, rfl⟩
  obtain ⟨u1, hu1⟩ : ∃ u1, bs (cut1 (cut2 s.data.toList)) = u1 := ⟨_, rfl⟩
  obtain ⟨u2, hu2⟩ : ∃ u2, bs (cut2 (cut2 s.data.toList)) = u2 := ⟨_, rfl⟩
  have hspb : (spL s.data.toList 32).map bs = [c1, u1, u2] := by rw [hsp, ← hc1, ← hu1, ← hu2]; rfl
  have HSP := Lib.hid hspb
  obtain ⟨p, hp⟩ : ∃ p, pA xs s.data.toList = p := ⟨_, rfl⟩
  obtain ⟨q, hq⟩ : ∃ q, pB xs s.data.toList = q := ⟨_, rfl⟩
  have HP1 := Lib.hid (show plI xs (rdI u1.data.toList) = p from by rw [← hu1, ← hp]; rfl)
  have HP2 := Lib.hid (show plI xs (rdI u2.data.toList) = q from by rw [← hu2, ← hq]; rfl)
  have hcw : c1.data.toList = cut1 s.data.toList := by rw [← hc1]; rfl
  rw [hp] at hX
  rw [hq] at hY
  subst hX; subst hY
  have hno1 : decide ((X : Int) < 0) = false := decide_eq_false (by omega)
  have hno2 : decide ((Y : Int) < 0) = false := decide_eq_false (by omega)
  have kt0 : (c1.toList == [115, 117, 109]) = false := by rw [eqW, hcw]; exact decide_eq_false g0
  have kt1 : (c1.toList == [99, 111, 109, 109, 111, 110]) = true := by rw [eqW, hcw]; exact decide_eq_true g1
  clear hdk hrd hsp hc1 hu1 hu2 hspb hp hq hcw
  clear hN ho hta hz
  have hdd := h
  obtain ⟨a, c, b, c2, rfl, _⟩ := h.parts
  obtain ⟨g2, o2, rfl, hg2, hrw⟩ := hdd.now.row (by omega)
  have HG2 := Lib.hid (show g2 ≠ w.heap.size + 1 by omega)
  have HROW := Lib.hid (show ∀ W', Below w.heap.size w W' → ∀ C, C < xs.length → W'.cell? ⟨g2, o2 + C, none⟩ = some (.int .i64 (xs.getD C 0)) from fun W' hW C hC => (hrw.below hW hg2) C hC)
  have q1 := alloc_below w (.cells #[.slice (some ⟨g2, o2, none⟩) xs.length c, .slice b L.length c2] 31)
  have q2 := alloc_below (w.alloc (.cells #[.slice (some ⟨g2, o2, none⟩) xs.length c, .slice b L.length c2] 31)) (.cells #[.slice none 0 0, .slice none 0 0] 31)
  have HV := Lib.hid ((VarD.new hdd).kept q2)
  have hbr := Blk2.new (w.alloc (.cells #[.slice (some ⟨g2, o2, none⟩) xs.length c, .slice b L.length c2] 31)) 31 (.slice none 0 0) (.slice none 0 0)
  rw [alloc_size] at hbr
  have HBR := Lib.hid hbr
  have HB := Lib.hid (below_onto q1 q2)
  obtain ⟨w2, hw2⟩ : ∃ w2, (w.alloc (.cells #[.slice (some ⟨g2, o2, none⟩) xs.length c, .slice b L.length c2] 31)).alloc (.cells #[.slice none 0 0, .slice none 0 0] 31) = w2 := ⟨_, rfl⟩
  rw [hw2] at HV HBR HB
  have hd0 := HV.out.blk.cell.1; have hd1 := HV.out.blk.cell.2
  clear h hdd q1 q2 hbr hg2 hrw
  go_enter Tryz.func21, Tryz.ntmps21
  go_wp2_with fail
  clear hw2
  refine (specDeskOk_any _ xs L _ HV.out.d).mono ?_
  rintro e w3 ⟨rfl, hb⟩
  rw [HDK.out]
  replace HV := Lib.hid (HV.out.kept hb); replace HBR := Lib.hid (HBR.out.kept hb HBR.out.lt); replace HB := Lib.hid (below_onto HB.out hb)
  clear hb hd0 hd1
  have hd0 := HV.out.blk.cell.1; have hd1 := HV.out.blk.cell.2
  have HB3 := HB
  have HLT := Lib.hid (show w.heap.size + 1 < w3.heap.size from HBR.out.lt)
  go_wp2_with fail
  refine (l12Copy_any _ xs L HDK.out _ HV.out.d).mono ?_
  rintro e w4 ⟨v1, v2, rfl, hgo⟩
  have hg := hgo.desk
  obtain ⟨p1, e1, rfl⟩ := hg.one
  obtain ⟨p2, e2, rfl⟩ := hg.two
  have HG := Lib.hid hg
  have hal := alloc_below w4 (.cells #[.slice p1 xs.length e1, .slice p2 L.length e2] 31)
  have HO := Lib.hid (Blk2.new w4 31 (.slice p1 xs.length e1) (.slice p2 L.length e2))
  have HB4 := Lib.hid hal
  have hb := below_onto hg.below hal
  have HNO := Lib.hid (show w.heap.size + 1 < w4.heap.size from Nat.lt_of_lt_of_le HLT.out hg.below.size)
  replace HV := Lib.hid (HV.out.kept hb); replace HBR := Lib.hid (HBR.out.kept hb HBR.out.lt); replace HB := Lib.hid (below_onto HB.out hb)
  obtain ⟨w5, hw5⟩ : ∃ w5, w4.alloc (.cells #[.slice p1 xs.length e1, .slice p2 L.length e2] 31) = w5 := ⟨_, rfl⟩
  obtain ⟨O, hO⟩ : ∃ O, w4.heap.size = O := ⟨_, rfl⟩
  rw [hw5] at HV HBR HB HO HB4
  rw [hO] at HO HNO
  clear hgo hg hal hb hd0 hd1
  go_wp2_with fail
  clear hw5 hO
  refine (specReadDeed_any s hs _).mono ?_
  rintro e w6 ⟨rfl, hb⟩
  rw [HRD.out]
  obtain ⟨rk, hrk⟩ : ∃ rk, rdK s.data.toList = rk := ⟨_, rfl⟩
  obtain ⟨ry, hry⟩ : ∃ ry, rdY s.data.toList = ry := ⟨_, rfl⟩
  rw [hrk, hry]
  have hal := alloc_below w6 (.cells #[.int .i64 rk, .int .i64 ry] 39)
  have HE7 := Lib.hid (Blk2.new w6 39 (.int .i64 rk) (.int .i64 ry))
  replace hb := below_onto hb hal
  replace HV := Lib.hid (HV.out.kept hb); replace HBR := Lib.hid (HBR.out.kept hb HBR.out.lt); replace HB := Lib.hid (below_onto HB.out hb)
  replace HO := Lib.hid (HO.out.kept hb HO.out.lt); replace HB4 := Lib.hid (below_onto HB4.out hb)
  obtain ⟨w7, hw7⟩ : ∃ w7, w6.alloc (.cells #[.int .i64 rk, .int .i64 ry] 39) = w7 := ⟨_, rfl⟩
  obtain ⟨E, hE⟩ : ∃ E, w6.heap.size = E := ⟨_, rfl⟩
  rw [hw7] at HV HBR HB HO HB4 HE7
  rw [hE] at HE7
  have hd0 := HV.out.blk.cell.1; have hd1 := HV.out.blk.cell.2
  have HRK := Lib.hid hrk; have HRY := Lib.hid hry
  clear hb hal hrk hry
  go_wp2_with fail
  clear hw7 hE
  refine (specWorldFrom_any (some ⟨g2, o2, none⟩) xs.length c (fun j => xs.getD j 0) _ HV.out.d.now).mono ?_
  intro e w8 hg8
  obtain ⟨g, cap, rfl, hi, hb⟩ := wd_gives HF.out hg8
  have HI := Lib.hid hi
  replace HV := Lib.hid (HV.out.kept hb); replace HBR := Lib.hid (HBR.out.kept hb HBR.out.lt); replace HB := Lib.hid (below_onto HB.out hb)
  replace HO := Lib.hid (HO.out.kept hb HO.out.lt); replace HB4 := Lib.hid (below_onto HB4.out hb)
  clear hg8 hi hb hd0 hd1
  go_wp2_with fail
  refine (l1Cut_any s 32 hs _).mono ?_
  rintro e w9 ⟨v, rfl, hown, hb⟩
  rw [HSP.out] at hown
  obtain ⟨g9, c9, m, rfl, hm3, _, _, hx0, hx1, hx2⟩ := own3 hown
  replace HV := Lib.hid (HV.out.kept hb); replace HBR := Lib.hid (HBR.out.kept hb HBR.out.lt); replace HB := Lib.hid (below_onto HB.out hb)
  replace HO := Lib.hid (HO.out.kept hb HO.out.lt); replace HB4 := Lib.hid (below_onto HB4.out hb)
  have HBX := Lib.hid hb
  clear hown hb
  have hne : ((m : Int) != 3) = false := by simp; omega
  have hb1 : (1 : Int) < (m : Int) := by omega
  have hb2 : (2 : Int) < (m : Int) := by omega
  have hb0 : (0 : Int) < (m : Int) := by omega
  clear hm3
  go_wp2_with fail
  refine (l12Place_any (some ⟨g2, o2, none⟩) c xs u1 _ HV.out.d.now).mono ?_
  rintro e w' ⟨rfl, rfl⟩
  rw [HP1.out]
  go_wp2_with fail
  refine (l12Place_any (some ⟨g2, o2, none⟩) c xs u2 _ HV.out.d.now).mono ?_
  rintro e w' ⟨rfl, rfl⟩
  rw [HP2.out]
  go_wp2_with fail
  refine (specCommonOf_val _ _ _ _ X Y C true _ HI1.out HI2.out (HI.out.below HBX.out (Nat.le_refl _))).mono ?_
  rintro e w10 ⟨rfl, hd⟩
  have hb := hd.below
  replace HV := Lib.hid (HV.out.kept hb); replace HBR := Lib.hid (HBR.out.kept hb HBR.out.lt); replace HB := Lib.hid (below_onto HB.out hb)
  replace HO := Lib.hid (HO.out.kept hb HO.out.lt); replace HB4 := Lib.hid (below_onto HB4.out hb)
  clear hb hd
  have HR := Lib.hid (show ∀ W', Below w10.heap.size w10 W' → Blk2 W' (w.heap.size + 1) 31 (.slice none 0 0) (.slice none 0 0) from fun W' hW => HBR.out.kept hW HBR.out.lt)
  have HKS := Lib.hid (show ∀ W', Below w10.heap.size w10 W' → (W'.cell? ⟨O, 0, none⟩ = some (.slice p1 xs.length e1) ∧ W'.cell? ⟨O, 1, none⟩ = some (.slice p2 L.length e2)) from fun W' hW => (HO.out.kept hW HO.out.lt).cell)
  have HKW := Lib.hid (show ∀ W' W'' : World, Below w10.heap.size w10 W' → W''.heap[O]? = W'.heap[O]? → (W''.cell? ⟨O, 0, none⟩ = some (.slice p1 xs.length e1) ∧ W''.cell? ⟨O, 1, none⟩ = some (.slice p2 L.length e2)) from fun W' W'' hW hW' => Blk2.cell (show Blk2 W'' O 31 _ _ from hW'.trans (HO.out.kept hW HO.out.lt)))
  have hn1 : ¬ O = w.heap.size + 1 := by have := HNO.out; omega
  have HN1 := Lib.hid hn1
  have HCX := Lib.hid (show ∀ W', Below w10.heap.size w10 W' → W'.cell? ⟨g2, o2 + C, none⟩ = some (.int .i64 z) from fun W' hW => by
    have := HROW.out W' (below_onto HB.out hW) C HC.out
    rw [HZ0.out] at this
    exact this)
  have HCY := Lib.hid (show ∀ W' W'' : World, Below w10.heap.size w10 W' → W''.heap[g2]? = W'.heap[g2]? → W''.cell? ⟨g2, o2 + C, none⟩ = some (.int .i64 z) from fun W' W'' hW hW' => (World.cell?_of_block (a := ⟨g2, o2 + C, none⟩) hW').trans (HCX.out W' hW))
  have hC0 : (0 : Int) ≤ (C : Int) := by omega
  have hC1 : (C : Int) < (xs.length : Int) := by have := HC.out; omega
  have HB6 := Lib.hid (Below.refl w10.heap.size w10)
  have hr0 := (HR.out _ HB6.out).cell.1; have hr1 := (HR.out _ HB6.out).cell.2; have hr2 := (HR.out _ HB6.out).frozen 0; have hr3 := (HR.out _ HB6.out).frozen 1
  go_upto_region 51 with fail
  go_region_held3 (fun W => W.cell? ⟨O, 0, none⟩ = some (.slice p1 xs.length e1) ∧ W.cell? ⟨O, 1, none⟩ = some (.slice p2 L.length e2) ∧ W.cell? ⟨g2, o2 + C, none⟩ = some (.int .i64 z)) (first | exact ⟨(HKS.out _ HB6.out).1, (HKS.out _ HB6.out).2, HCX.out _ HB6.out⟩ | exact ⟨(HKS.out _ HB6.out.drew).1, (HKS.out _ HB6.out.drew).2, HCX.out _ HB6.out.drew⟩ | exact ⟨(HKS.out _ (below_drewN HB6.out _)).1, (HKS.out _ (below_drewN HB6.out _)).2, HCX.out _ (below_drewN HB6.out _)⟩ | exact ⟨(HKW.out _ _ HB6.out ((set_blk HN1.out).trans (set_blk HN1.out))).1, (HKW.out _ _ HB6.out ((set_blk HN1.out).trans (set_blk HN1.out))).2, HCY.out _ _ HB6.out ((set_blk HG2.out).trans (set_blk HG2.out))⟩ | go_keep)
    (first | (go_at_call 28; refine (specSetText_any z _).mono ?_; rintro e w11 ⟨rfl, rfl⟩; rw [HSE.out]))
  all_goals
    go_wp2_with fail
    refine bodyPost_ret (results_desk rfl _ _ (w.heap.size + 1) (((HR.out _ HB6.out).set0 _).set1 _) rfl rfl (by kernel_rfl)) rfl ?_
    first
      | exact ⟨_, _, rfl, HG.out.fin HB3.out (Nat.le_succ _) HLT.out (below_onto HB4.out HB6.out)⟩
      | exact ⟨_, _, rfl, (HG.out.fin HB3.out (Nat.le_succ _) HLT.out (below_onto HB4.out HB6.out)).drew⟩
set_option maxRecDepth 100000 in
theorem specLine_left0 (d : Value) (xs : List Int) (L : List (List Int)) (s : ByteArray) (hs : s.size ≤ 1048600) (hdk : deskB xs L = true) (hrd : rdDB s.data.toList = false) (h0 : s.data.toList ≠ allW) (h1 : s.data.toList ≠ companyW) (h2 : s.data.toList ≠ weakW) (h3 : s.data.toList ≠ strongW) (h4 : s.data.toList ≠ summedW) (h5 : s.data.toList ≠ classicalW) (h6 : s.data.toList ≠ atomsW) (h7 : s.data.toList ≠ wholeW) (hw : (spL s.data.toList 32).length = 3) (X Y : Nat) (hX : pA xs s.data.toList = X) (hY : pB xs s.data.toList = Y) (g0 : cut1 s.data.toList ≠ sumW) (g1 : cut1 s.data.toList ≠ commonW) (g2 : cut1 s.data.toList = leftW) (ho : leftOk xs.length (wdF xs) X Y = false) (w : World) (h : DeskR w d xs L) :
    Calls Tryz.prog 21 #[d, .string s] w (LineD xs L noneW w) := by
  have HDK := Lib.hid hdk; have HRD := Lib.hid hrd
  have hf := (deskB_iff.1 hdk).1
  have HF := Lib.hid hf
  have hl := famL_len hf
  have HE := Lib.hid (show ({ data := #[110, 111, 110, 101] } : ByteArray) = bs noneW from rfl)
  obtain ⟨i, hi⟩ : ∃ i, leftN xs.length (wdF xs) X Y = i := ⟨_, rfl⟩
  have HI1 := Lib.hid hi; have HI2 := Lib.hid ho
  have kh0 : (s.toList == [97, 108, 108]) = false := by rw [eqW]; exact decide_eq_false h0
  have kh1 : (s.toList == [99, 111, 109, 112, 97, 110, 121]) = false := by rw [eqW]; exact decide_eq_false h1
  have kh2 : (s.toList == [119, 101, 97, 107]) = false := by rw [eqW]; exact decide_eq_false h2
  have kh3 : (s.toList == [115, 116, 114, 111, 110, 103]) = false := by rw [eqW]; exact decide_eq_false h3
  have kh4 : (s.toList == [115, 117, 109, 109, 101, 100]) = false := by rw [eqW]; exact decide_eq_false h4
  have kh5 : (s.toList == [99, 108, 97, 115, 115, 105, 99, 97, 108]) = false := by rw [eqW]; exact decide_eq_false h5
  have kh6 : (s.toList == [97, 116, 111, 109, 115]) = false := by rw [eqW]; exact decide_eq_false h6
  have kh7 : (s.toList == [119, 104, 111, 108, 101]) = false := by rw [eqW]; exact decide_eq_false h7
  have hsp := (three_words s.data.toList).1 hw
  obtain ⟨c1, hc1⟩ : ∃ c1, bs (cut1 s.data.toList) = c1 := ⟨_, rfl⟩
  obtain ⟨u1, hu1⟩ : ∃ u1, bs (cut1 (cut2 s.data.toList)) = u1 := ⟨_, rfl⟩
  obtain ⟨u2, hu2⟩ : ∃ u2, bs (cut2 (cut2 s.data.toList)) = u2 := ⟨_, rfl⟩
  have hspb : (spL s.data.toList 32).map bs = [c1, u1, u2] := by rw [hsp, ← hc1, ← hu1, ← hu2]; rfl
  have HSP := Lib.hid hspb
  obtain ⟨p, hp⟩ : ∃ p, pA xs s.data.toList = p := ⟨_, rfl⟩
  obtain ⟨q, hq⟩ : ∃ q, pB xs s.data.toList = q := ⟨_, rfl⟩
  have HP1 := Lib.hid (show plI xs (rdI u1.data.toList) = p from by rw [← hu1, ← hp]; rfl)
  have HP2 := Lib.hid (show plI xs (rdI u2.data.toList) = q from by rw [← hu2, ← hq]; rfl)
  have hcw : c1.data.toList = cut1 s.data.toList := by rw [← hc1]; rfl
  rw [hp] at hX
  rw [hq] at hY
  subst hX; subst hY
  have hno1 : decide ((X : Int) < 0) = false := decide_eq_false (by omega)
  have hno2 : decide ((Y : Int) < 0) = false := decide_eq_false (by omega)
  have kt0 : (c1.toList == [115, 117, 109]) = false := by rw [eqW, hcw]; exact decide_eq_false g0
  have kt1 : (c1.toList == [99, 111, 109, 109, 111, 110]) = false := by rw [eqW, hcw]; exact decide_eq_false g1
  have kt2 : (c1.toList == [108, 101, 102, 116]) = true := by rw [eqW, hcw]; exact decide_eq_true g2
  clear hdk hrd hsp hc1 hu1 hu2 hspb hp hq hcw
  clear hi ho
  have hdd := h
  obtain ⟨a, c, b, c2, rfl, _⟩ := h.parts
  have q1 := alloc_below w (.cells #[.slice a xs.length c, .slice b L.length c2] 31)
  have q2 := alloc_below (w.alloc (.cells #[.slice a xs.length c, .slice b L.length c2] 31)) (.cells #[.slice none 0 0, .slice none 0 0] 31)
  have HV := Lib.hid ((VarD.new hdd).kept q2)
  have hbr := Blk2.new (w.alloc (.cells #[.slice a xs.length c, .slice b L.length c2] 31)) 31 (.slice none 0 0) (.slice none 0 0)
  rw [alloc_size] at hbr
  have HBR := Lib.hid hbr
  have HB := Lib.hid (below_onto q1 q2)
  obtain ⟨w2, hw2⟩ : ∃ w2, (w.alloc (.cells #[.slice a xs.length c, .slice b L.length c2] 31)).alloc (.cells #[.slice none 0 0, .slice none 0 0] 31) = w2 := ⟨_, rfl⟩
  rw [hw2] at HV HBR HB
  have hd0 := HV.out.blk.cell.1; have hd1 := HV.out.blk.cell.2
  clear h hdd q1 q2 hbr
  go_enter Tryz.func21, Tryz.ntmps21
  go_wp2_with fail
  clear hw2
  refine (specDeskOk_any _ xs L _ HV.out.d).mono ?_
  rintro e w3 ⟨rfl, hb⟩
  rw [HDK.out]
  replace HV := Lib.hid (HV.out.kept hb); replace HBR := Lib.hid (HBR.out.kept hb HBR.out.lt); replace HB := Lib.hid (below_onto HB.out hb)
  clear hb hd0 hd1
  have hd0 := HV.out.blk.cell.1; have hd1 := HV.out.blk.cell.2
  have HB3 := HB
  have HLT := Lib.hid (show w.heap.size + 1 < w3.heap.size from HBR.out.lt)
  go_wp2_with fail
  refine (l12Copy_any _ xs L HDK.out _ HV.out.d).mono ?_
  rintro e w4 ⟨v1, v2, rfl, hgo⟩
  have hg := hgo.desk
  obtain ⟨p1, e1, rfl⟩ := hg.one
  obtain ⟨p2, e2, rfl⟩ := hg.two
  have HG := Lib.hid hg
  have hal := alloc_below w4 (.cells #[.slice p1 xs.length e1, .slice p2 L.length e2] 31)
  have HO := Lib.hid (Blk2.new w4 31 (.slice p1 xs.length e1) (.slice p2 L.length e2))
  have HB4 := Lib.hid hal
  have hb := below_onto hg.below hal
  have HNO := Lib.hid (show w.heap.size + 1 < w4.heap.size from Nat.lt_of_lt_of_le HLT.out hg.below.size)
  replace HV := Lib.hid (HV.out.kept hb); replace HBR := Lib.hid (HBR.out.kept hb HBR.out.lt); replace HB := Lib.hid (below_onto HB.out hb)
  obtain ⟨w5, hw5⟩ : ∃ w5, w4.alloc (.cells #[.slice p1 xs.length e1, .slice p2 L.length e2] 31) = w5 := ⟨_, rfl⟩
  obtain ⟨O, hO⟩ : ∃ O, w4.heap.size = O := ⟨_, rfl⟩
  rw [hw5] at HV HBR HB HO HB4
  rw [hO] at HO HNO
  clear hgo hg hal hb hd0 hd1
  go_wp2_with fail
  clear hw5 hO
  refine (specReadDeed_any s hs _).mono ?_
  rintro e w6 ⟨rfl, hb⟩
  rw [HRD.out]
  obtain ⟨rk, hrk⟩ : ∃ rk, rdK s.data.toList = rk := ⟨_, rfl⟩
  obtain ⟨ry, hry⟩ : ∃ ry, rdY s.data.toList = ry := ⟨_, rfl⟩
  rw [hrk, hry]
  have hal := alloc_below w6 (.cells #[.int .i64 rk, .int .i64 ry] 39)
  have HE7 := Lib.hid (Blk2.new w6 39 (.int .i64 rk) (.int .i64 ry))
  replace hb := below_onto hb hal
  replace HV := Lib.hid (HV.out.kept hb); replace HBR := Lib.hid (HBR.out.kept hb HBR.out.lt); replace HB := Lib.hid (below_onto HB.out hb)
  replace HO := Lib.hid (HO.out.kept hb HO.out.lt); replace HB4 := Lib.hid (below_onto HB4.out hb)
  obtain ⟨w7, hw7⟩ : ∃ w7, w6.alloc (.cells #[.int .i64 rk, .int .i64 ry] 39) = w7 := ⟨_, rfl⟩
  obtain ⟨E, hE⟩ : ∃ E, w6.heap.size = E := ⟨_, rfl⟩
  rw [hw7] at HV HBR HB HO HB4 HE7
  rw [hE] at HE7
  have hd0 := HV.out.blk.cell.1; have hd1 := HV.out.blk.cell.2
  have HRK := Lib.hid hrk; have HRY := Lib.hid hry
  clear hb hal hrk hry
  go_wp2_with fail
  clear hw7 hE
  refine (specWorldFrom_any a xs.length c (fun j => xs.getD j 0) _ HV.out.d.now).mono ?_
  intro e w8 hg8
  obtain ⟨g, cap, rfl, hi, hb⟩ := wd_gives HF.out hg8
  have HI := Lib.hid hi
  replace HV := Lib.hid (HV.out.kept hb); replace HBR := Lib.hid (HBR.out.kept hb HBR.out.lt); replace HB := Lib.hid (below_onto HB.out hb)
  replace HO := Lib.hid (HO.out.kept hb HO.out.lt); replace HB4 := Lib.hid (below_onto HB4.out hb)
  clear hg8 hi hb hd0 hd1
  go_wp2_with fail
  refine (l1Cut_any s 32 hs _).mono ?_
  rintro e w9 ⟨v, rfl, hown, hb⟩
  rw [HSP.out] at hown
  obtain ⟨g9, c9, m, rfl, hm3, _, _, hx0, hx1, hx2⟩ := own3 hown
  replace HV := Lib.hid (HV.out.kept hb); replace HBR := Lib.hid (HBR.out.kept hb HBR.out.lt); replace HB := Lib.hid (below_onto HB.out hb)
  replace HO := Lib.hid (HO.out.kept hb HO.out.lt); replace HB4 := Lib.hid (below_onto HB4.out hb)
  have HBX := Lib.hid hb
  clear hown hb
  have hne : ((m : Int) != 3) = false := by simp; omega
  have hb1 : (1 : Int) < (m : Int) := by omega
  have hb2 : (2 : Int) < (m : Int) := by omega
  have hb0 : (0 : Int) < (m : Int) := by omega
  clear hm3
  go_wp2_with fail
  refine (l12Place_any a c xs u1 _ HV.out.d.now).mono ?_
  rintro e w' ⟨rfl, rfl⟩
  rw [HP1.out]
  go_wp2_with fail
  refine (l12Place_any a c xs u2 _ HV.out.d.now).mono ?_
  rintro e w' ⟨rfl, rfl⟩
  rw [HP2.out]
  go_wp2_with fail
  refine (specLeftOf_val _ _ _ _ X Y i false _ HI1.out HI2.out (HI.out.below HBX.out (Nat.le_refl _))).mono ?_
  rintro e w10 ⟨rfl, hd⟩
  have hb := hd.below
  replace HV := Lib.hid (HV.out.kept hb); replace HBR := Lib.hid (HBR.out.kept hb HBR.out.lt); replace HB := Lib.hid (below_onto HB.out hb)
  replace HO := Lib.hid (HO.out.kept hb HO.out.lt); replace HB4 := Lib.hid (below_onto HB4.out hb)
  clear hb hd
  have ho0 := HO.out.cell.1; have ho1 := HO.out.cell.2
  have hr0 := HBR.out.cell.1; have hr1 := HBR.out.cell.2; have hr2 := HBR.out.frozen 0; have hr3 := HBR.out.frozen 1
  go_wp2_with fail
  refine bodyPost_ret (results_desk rfl _ _ (w.heap.size + 1) ((HBR.out.set0 _).set1 _) rfl rfl (by kernel_rfl)) rfl ?_
  exact ⟨_, _, retdt HE.out, HG.out.fin HB3.out (Nat.le_succ _) HLT.out HB4.out⟩
set_option maxRecDepth 100000 in
theorem specLine_left1 (d : Value) (xs : List Int) (L : List (List Int)) (s : ByteArray) (hs : s.size ≤ 1048600) (hdk : deskB xs L = true) (hrd : rdDB s.data.toList = false) (h0 : s.data.toList ≠ allW) (h1 : s.data.toList ≠ companyW) (h2 : s.data.toList ≠ weakW) (h3 : s.data.toList ≠ strongW) (h4 : s.data.toList ≠ summedW) (h5 : s.data.toList ≠ classicalW) (h6 : s.data.toList ≠ atomsW) (h7 : s.data.toList ≠ wholeW) (hw : (spL s.data.toList 32).length = 3) (X Y : Nat) (hX : pA xs s.data.toList = X) (hY : pB xs s.data.toList = Y) (g0 : cut1 s.data.toList ≠ sumW) (g1 : cut1 s.data.toList ≠ commonW) (g2 : cut1 s.data.toList = leftW) (C : Nat) (hC : C < xs.length) (hN : leftN xs.length (wdF xs) X Y = C) (ho : leftOk xs.length (wdF xs) X Y = true) (w : World) (h : DeskR w d xs L) :
    Calls Tryz.prog 21 #[d, .string s] w (LineD xs L (setL (xs.getD C 0)) w) := by
  have HDK := Lib.hid hdk; have HRD := Lib.hid hrd
  have hf := (deskB_iff.1 hdk).1
  have HF := Lib.hid hf
  have hl := famL_len hf
  obtain ⟨ta, hta⟩ : ∃ ta, bs (setL (xs.getD C 0)) = ta := ⟨_, rfl⟩
  unfold LineD
  rw [hta]
  obtain ⟨z, hz⟩ : ∃ z, xs.getD C 0 = z := ⟨_, rfl⟩
  have HSE := Lib.hid (show setT z = ta from by rw [← hta, hz]; rfl)
  have HZ0 := Lib.hid hz; have HC := Lib.hid hC
  have HI1 := Lib.hid hN; have HI2 := Lib.hid ho
  have kh0 : (s.toList == [97, 108, 108]) = false := by rw [eqW]; exact decide_eq_false h0
  have kh1 : (s.toList == [99, 111, 109, 112, 97, 110, 121]) = false := by rw [eqW]; exact decide_eq_false h1
  have kh2 : (s.toList == [119, 101, 97, 107]) = false := by rw [eqW]; exact decide_eq_false h2
  have kh3 : (s.toList == [115, 116, 114, 111, 110, 103]) = false := by rw [eqW]; exact decide_eq_false h3
  have kh4 : (s.toList == [115, 117, 109, 109, 101, 100]) = false := by rw [eqW]; exact decide_eq_false h4
  have kh5 : (s.toList == [99, 108, 97, 115, 115, 105, 99, 97, 108]) = false := by rw [eqW]; exact decide_eq_false h5
  have kh6 : (s.toList == [97, 116, 111, 109, 115]) = false := by rw [eqW]; exact decide_eq_false h6
  have kh7 : (s.toList == [119, 104, 111, 108, 101]) = false := by rw [eqW]; exact decide_eq_false h7
  have hsp := (three_words s.data.toList).1 hw
  obtain ⟨c1, hc1⟩ : ∃ c1, bs (cut1 s.data.toList) = c1 := ⟨_, rfl⟩
  obtain ⟨u1, hu1⟩ : ∃ u1, bs (cut1 (cut2 s.data.toList)) = u1 := ⟨_, rfl⟩
  obtain ⟨u2, hu2⟩ : ∃ u2, bs (cut2 (cut2 s.data.toList)) = u2 := ⟨_, rfl⟩
  have hspb : (spL s.data.toList 32).map bs = [c1, u1, u2] := by rw [hsp, ← hc1, ← hu1, ← hu2]; rfl
  have HSP := Lib.hid hspb
  obtain ⟨p, hp⟩ : ∃ p, pA xs s.data.toList = p := ⟨_, rfl⟩
  obtain ⟨q, hq⟩ : ∃ q, pB xs s.data.toList = q := ⟨_, rfl⟩
  have HP1 := Lib.hid (show plI xs (rdI u1.data.toList) = p from by rw [← hu1, ← hp]; rfl)
  have HP2 := Lib.hid (show plI xs (rdI u2.data.toList) = q from by rw [← hu2, ← hq]; rfl)
  have hcw : c1.data.toList = cut1 s.data.toList := by rw [← hc1]; rfl
  rw [hp] at hX
  rw [hq] at hY
  subst hX; subst hY
  have hno1 : decide ((X : Int) < 0) = false := decide_eq_false (by omega)
  have hno2 : decide ((Y : Int) < 0) = false := decide_eq_false (by omega)
  have kt0 : (c1.toList == [115, 117, 109]) = false := by rw [eqW, hcw]; exact decide_eq_false g0
  have kt1 : (c1.toList == [99, 111, 109, 109, 111, 110]) = false := by rw [eqW, hcw]; exact decide_eq_false g1
  have kt2 : (c1.toList == [108, 101, 102, 116]) = true := by rw [eqW, hcw]; exact decide_eq_true g2
  clear hdk hrd hsp hc1 hu1 hu2 hspb hp hq hcw
  clear hN ho hta hz
  have hdd := h
  obtain ⟨a, c, b, c2, rfl, _⟩ := h.parts
  obtain ⟨g2, o2, rfl, hg2, hrw⟩ := hdd.now.row (by omega)
  have HG2 := Lib.hid (show g2 ≠ w.heap.size + 1 by omega)
  have HROW := Lib.hid (show ∀ W', Below w.heap.size w W' → ∀ C, C < xs.length → W'.cell? ⟨g2, o2 + C, none⟩ = some (.int .i64 (xs.getD C 0)) from fun W' hW C hC => (hrw.below hW hg2) C hC)
  have q1 := alloc_below w (.cells #[.slice (some ⟨g2, o2, none⟩) xs.length c, .slice b L.length c2] 31)
  have q2 := alloc_below (w.alloc (.cells #[.slice (some ⟨g2, o2, none⟩) xs.length c, .slice b L.length c2] 31)) (.cells #[.slice none 0 0, .slice none 0 0] 31)
  have HV := Lib.hid ((VarD.new hdd).kept q2)
  have hbr := Blk2.new (w.alloc (.cells #[.slice (some ⟨g2, o2, none⟩) xs.length c, .slice b L.length c2] 31)) 31 (.slice none 0 0) (.slice none 0 0)
  rw [alloc_size] at hbr
  have HBR := Lib.hid hbr
  have HB := Lib.hid (below_onto q1 q2)
  obtain ⟨w2, hw2⟩ : ∃ w2, (w.alloc (.cells #[.slice (some ⟨g2, o2, none⟩) xs.length c, .slice b L.length c2] 31)).alloc (.cells #[.slice none 0 0, .slice none 0 0] 31) = w2 := ⟨_, rfl⟩
  rw [hw2] at HV HBR HB
  have hd0 := HV.out.blk.cell.1; have hd1 := HV.out.blk.cell.2
  clear h hdd q1 q2 hbr hg2 hrw
  go_enter Tryz.func21, Tryz.ntmps21
  go_wp2_with fail
  clear hw2
  refine (specDeskOk_any _ xs L _ HV.out.d).mono ?_
  rintro e w3 ⟨rfl, hb⟩
  rw [HDK.out]
  replace HV := Lib.hid (HV.out.kept hb); replace HBR := Lib.hid (HBR.out.kept hb HBR.out.lt); replace HB := Lib.hid (below_onto HB.out hb)
  clear hb hd0 hd1
  have hd0 := HV.out.blk.cell.1; have hd1 := HV.out.blk.cell.2
  have HB3 := HB
  have HLT := Lib.hid (show w.heap.size + 1 < w3.heap.size from HBR.out.lt)
  go_wp2_with fail
  refine (l12Copy_any _ xs L HDK.out _ HV.out.d).mono ?_
  rintro e w4 ⟨v1, v2, rfl, hgo⟩
  have hg := hgo.desk
  obtain ⟨p1, e1, rfl⟩ := hg.one
  obtain ⟨p2, e2, rfl⟩ := hg.two
  have HG := Lib.hid hg
  have hal := alloc_below w4 (.cells #[.slice p1 xs.length e1, .slice p2 L.length e2] 31)
  have HO := Lib.hid (Blk2.new w4 31 (.slice p1 xs.length e1) (.slice p2 L.length e2))
  have HB4 := Lib.hid hal
  have hb := below_onto hg.below hal
  have HNO := Lib.hid (show w.heap.size + 1 < w4.heap.size from Nat.lt_of_lt_of_le HLT.out hg.below.size)
  replace HV := Lib.hid (HV.out.kept hb); replace HBR := Lib.hid (HBR.out.kept hb HBR.out.lt); replace HB := Lib.hid (below_onto HB.out hb)
  obtain ⟨w5, hw5⟩ : ∃ w5, w4.alloc (.cells #[.slice p1 xs.length e1, .slice p2 L.length e2] 31) = w5 := ⟨_, rfl⟩
  obtain ⟨O, hO⟩ : ∃ O, w4.heap.size = O := ⟨_, rfl⟩
  rw [hw5] at HV HBR HB HO HB4
  rw [hO] at HO HNO
  clear hgo hg hal hb hd0 hd1
  go_wp2_with fail
  clear hw5 hO
  refine (specReadDeed_any s hs _).mono ?_
  rintro e w6 ⟨rfl, hb⟩
  rw [HRD.out]
  obtain ⟨rk, hrk⟩ : ∃ rk, rdK s.data.toList = rk := ⟨_, rfl⟩
  obtain ⟨ry, hry⟩ : ∃ ry, rdY s.data.toList = ry := ⟨_, rfl⟩
  rw [hrk, hry]
  have hal := alloc_below w6 (.cells #[.int .i64 rk, .int .i64 ry] 39)
  have HE7 := Lib.hid (Blk2.new w6 39 (.int .i64 rk) (.int .i64 ry))
  replace hb := below_onto hb hal
  replace HV := Lib.hid (HV.out.kept hb); replace HBR := Lib.hid (HBR.out.kept hb HBR.out.lt); replace HB := Lib.hid (below_onto HB.out hb)
  replace HO := Lib.hid (HO.out.kept hb HO.out.lt); replace HB4 := Lib.hid (below_onto HB4.out hb)
  obtain ⟨w7, hw7⟩ : ∃ w7, w6.alloc (.cells #[.int .i64 rk, .int .i64 ry] 39) = w7 := ⟨_, rfl⟩
  obtain ⟨E, hE⟩ : ∃ E, w6.heap.size = E := ⟨_, rfl⟩
  rw [hw7] at HV HBR HB HO HB4 HE7
  rw [hE] at HE7
  have hd0 := HV.out.blk.cell.1; have hd1 := HV.out.blk.cell.2
  have HRK := Lib.hid hrk; have HRY := Lib.hid hry
  clear hb hal hrk hry
  go_wp2_with fail
  clear hw7 hE
  refine (specWorldFrom_any (some ⟨g2, o2, none⟩) xs.length c (fun j => xs.getD j 0) _ HV.out.d.now).mono ?_
  intro e w8 hg8
  obtain ⟨g, cap, rfl, hi, hb⟩ := wd_gives HF.out hg8
  have HI := Lib.hid hi
  replace HV := Lib.hid (HV.out.kept hb); replace HBR := Lib.hid (HBR.out.kept hb HBR.out.lt); replace HB := Lib.hid (below_onto HB.out hb)
  replace HO := Lib.hid (HO.out.kept hb HO.out.lt); replace HB4 := Lib.hid (below_onto HB4.out hb)
  clear hg8 hi hb hd0 hd1
  go_wp2_with fail
  refine (l1Cut_any s 32 hs _).mono ?_
  rintro e w9 ⟨v, rfl, hown, hb⟩
  rw [HSP.out] at hown
  obtain ⟨g9, c9, m, rfl, hm3, _, _, hx0, hx1, hx2⟩ := own3 hown
  replace HV := Lib.hid (HV.out.kept hb); replace HBR := Lib.hid (HBR.out.kept hb HBR.out.lt); replace HB := Lib.hid (below_onto HB.out hb)
  replace HO := Lib.hid (HO.out.kept hb HO.out.lt); replace HB4 := Lib.hid (below_onto HB4.out hb)
  have HBX := Lib.hid hb
  clear hown hb
  have hne : ((m : Int) != 3) = false := by simp; omega
  have hb1 : (1 : Int) < (m : Int) := by omega
  have hb2 : (2 : Int) < (m : Int) := by omega
  have hb0 : (0 : Int) < (m : Int) := by omega
  clear hm3
  go_wp2_with fail
  refine (l12Place_any (some ⟨g2, o2, none⟩) c xs u1 _ HV.out.d.now).mono ?_
  rintro e w' ⟨rfl, rfl⟩
  rw [HP1.out]
  go_wp2_with fail
  refine (l12Place_any (some ⟨g2, o2, none⟩) c xs u2 _ HV.out.d.now).mono ?_
  rintro e w' ⟨rfl, rfl⟩
  rw [HP2.out]
  go_wp2_with fail
  refine (specLeftOf_val _ _ _ _ X Y C true _ HI1.out HI2.out (HI.out.below HBX.out (Nat.le_refl _))).mono ?_
  rintro e w10 ⟨rfl, hd⟩
  have hb := hd.below
  replace HV := Lib.hid (HV.out.kept hb); replace HBR := Lib.hid (HBR.out.kept hb HBR.out.lt); replace HB := Lib.hid (below_onto HB.out hb)
  replace HO := Lib.hid (HO.out.kept hb HO.out.lt); replace HB4 := Lib.hid (below_onto HB4.out hb)
  clear hb hd
  have HR := Lib.hid (show ∀ W', Below w10.heap.size w10 W' → Blk2 W' (w.heap.size + 1) 31 (.slice none 0 0) (.slice none 0 0) from fun W' hW => HBR.out.kept hW HBR.out.lt)
  have HKS := Lib.hid (show ∀ W', Below w10.heap.size w10 W' → (W'.cell? ⟨O, 0, none⟩ = some (.slice p1 xs.length e1) ∧ W'.cell? ⟨O, 1, none⟩ = some (.slice p2 L.length e2)) from fun W' hW => (HO.out.kept hW HO.out.lt).cell)
  have HKW := Lib.hid (show ∀ W' W'' : World, Below w10.heap.size w10 W' → W''.heap[O]? = W'.heap[O]? → (W''.cell? ⟨O, 0, none⟩ = some (.slice p1 xs.length e1) ∧ W''.cell? ⟨O, 1, none⟩ = some (.slice p2 L.length e2)) from fun W' W'' hW hW' => Blk2.cell (show Blk2 W'' O 31 _ _ from hW'.trans (HO.out.kept hW HO.out.lt)))
  have hn1 : ¬ O = w.heap.size + 1 := by have := HNO.out; omega
  have HN1 := Lib.hid hn1
  have HCX := Lib.hid (show ∀ W', Below w10.heap.size w10 W' → W'.cell? ⟨g2, o2 + C, none⟩ = some (.int .i64 z) from fun W' hW => by
    have := HROW.out W' (below_onto HB.out hW) C HC.out
    rw [HZ0.out] at this
    exact this)
  have HCY := Lib.hid (show ∀ W' W'' : World, Below w10.heap.size w10 W' → W''.heap[g2]? = W'.heap[g2]? → W''.cell? ⟨g2, o2 + C, none⟩ = some (.int .i64 z) from fun W' W'' hW hW' => (World.cell?_of_block (a := ⟨g2, o2 + C, none⟩) hW').trans (HCX.out W' hW))
  have hC0 : (0 : Int) ≤ (C : Int) := by omega
  have hC1 : (C : Int) < (xs.length : Int) := by have := HC.out; omega
  have HB6 := Lib.hid (Below.refl w10.heap.size w10)
  have hr0 := (HR.out _ HB6.out).cell.1; have hr1 := (HR.out _ HB6.out).cell.2; have hr2 := (HR.out _ HB6.out).frozen 0; have hr3 := (HR.out _ HB6.out).frozen 1
  go_upto_region 51 with fail
  go_region_held3 (fun W => W.cell? ⟨O, 0, none⟩ = some (.slice p1 xs.length e1) ∧ W.cell? ⟨O, 1, none⟩ = some (.slice p2 L.length e2) ∧ W.cell? ⟨g2, o2 + C, none⟩ = some (.int .i64 z)) (first | exact ⟨(HKS.out _ HB6.out).1, (HKS.out _ HB6.out).2, HCX.out _ HB6.out⟩ | exact ⟨(HKS.out _ HB6.out.drew).1, (HKS.out _ HB6.out.drew).2, HCX.out _ HB6.out.drew⟩ | exact ⟨(HKS.out _ (below_drewN HB6.out _)).1, (HKS.out _ (below_drewN HB6.out _)).2, HCX.out _ (below_drewN HB6.out _)⟩ | exact ⟨(HKW.out _ _ HB6.out ((set_blk HN1.out).trans (set_blk HN1.out))).1, (HKW.out _ _ HB6.out ((set_blk HN1.out).trans (set_blk HN1.out))).2, HCY.out _ _ HB6.out ((set_blk HG2.out).trans (set_blk HG2.out))⟩ | go_keep)
    (first | (go_at_call 28; refine (specSetText_any z _).mono ?_; rintro e w11 ⟨rfl, rfl⟩; rw [HSE.out]))
  all_goals
    go_wp2_with fail
    refine bodyPost_ret (results_desk rfl _ _ (w.heap.size + 1) (((HR.out _ HB6.out).set0 _).set1 _) rfl rfl (by kernel_rfl)) rfl ?_
    first
      | exact ⟨_, _, rfl, HG.out.fin HB3.out (Nat.le_succ _) HLT.out (below_onto HB4.out HB6.out)⟩
      | exact ⟨_, _, rfl, (HG.out.fin HB3.out (Nat.le_succ _) HLT.out (below_onto HB4.out HB6.out)).drew⟩
set_option maxRecDepth 100000 in
theorem specLine_sum (d : Value) (xs : List Int) (L : List (List Int)) (s : ByteArray) (hs : s.size ≤ 1048600) (hdk : deskB xs L = true) (hrd : rdDB s.data.toList = false) (h0 : s.data.toList ≠ allW) (h1 : s.data.toList ≠ companyW) (h2 : s.data.toList ≠ weakW) (h3 : s.data.toList ≠ strongW) (h4 : s.data.toList ≠ summedW) (h5 : s.data.toList ≠ classicalW) (h6 : s.data.toList ≠ atomsW) (h7 : s.data.toList ≠ wholeW) (hw : (spL s.data.toList 32).length = 3) (X Y : Nat) (hX : pA xs s.data.toList = X) (hY : pB xs s.data.toList = Y) (hXl : X < xs.length) (hYl : Y < xs.length) (g0 : cut1 s.data.toList = sumW) (w : World) (h : DeskR w d xs L) :
    Calls Tryz.prog 21 #[d, .string s] w (LineD xs L (sumA xs X Y) w) := by
  have HDK := Lib.hid hdk; have HRD := Lib.hid hrd
  have hf := (deskB_iff.1 hdk).1
  have HF := Lib.hid hf
  have hl := famL_len hf
  obtain ⟨ta, hta⟩ : ∃ ta, bs (sumA xs X Y) = ta := ⟨_, rfl⟩
  unfold LineD
  rw [hta]
  have hpX := pow_bounds X (by omega)
  have hpY := pow_bounds Y (by omega)
  have hsw : twoS X Y = bits .or .i64 (IntKind.i64.wrap (2 ^ X)) (IntKind.i64.wrap (2 ^ Y)) := by unfold twoS; rw [Int.toNat_natCast, Int.toNat_natCast, wrap_p8 (by omega), wrap_p8 (by omega)]
  obtain ⟨sv, hsv⟩ : ∃ sv, twoS X Y = sv := ⟨_, rfl⟩
  obtain ⟨tv, htv⟩ : ∃ tv, sumsB xs.length (wdF xs) sv = tv := ⟨_, rfl⟩
  have HSE := Lib.hid (show bs (setsW xs tv) = ta from by rw [← hta, ← htv, ← hsv]; rfl)
  have hs2 : setB xs.length (wdF xs) (twoS X Y) = true := two_set (wd_world hf) hXl hYl
  rw [hsv] at hs2 hsw
  have HS0 := Lib.hid (show 0 ≤ tv by rw [← htv]; unfold sumsB; rw [if_pos hs2]; exact (setOf_rng _ _ (by omega)).1)
  have HSV := Lib.hid hsw.symm; have HTV := Lib.hid htv
  have kh0 : (s.toList == [97, 108, 108]) = false := by rw [eqW]; exact decide_eq_false h0
  have kh1 : (s.toList == [99, 111, 109, 112, 97, 110, 121]) = false := by rw [eqW]; exact decide_eq_false h1
  have kh2 : (s.toList == [119, 101, 97, 107]) = false := by rw [eqW]; exact decide_eq_false h2
  have kh3 : (s.toList == [115, 116, 114, 111, 110, 103]) = false := by rw [eqW]; exact decide_eq_false h3
  have kh4 : (s.toList == [115, 117, 109, 109, 101, 100]) = false := by rw [eqW]; exact decide_eq_false h4
  have kh5 : (s.toList == [99, 108, 97, 115, 115, 105, 99, 97, 108]) = false := by rw [eqW]; exact decide_eq_false h5
  have kh6 : (s.toList == [97, 116, 111, 109, 115]) = false := by rw [eqW]; exact decide_eq_false h6
  have kh7 : (s.toList == [119, 104, 111, 108, 101]) = false := by rw [eqW]; exact decide_eq_false h7
  have hsp := (three_words s.data.toList).1 hw
  obtain ⟨c1, hc1⟩ : ∃ c1, bs (cut1 s.data.toList) = c1 := ⟨_, rfl⟩
  obtain ⟨u1, hu1⟩ : ∃ u1, bs (cut1 (cut2 s.data.toList)) = u1 := ⟨_, rfl⟩
  obtain ⟨u2, hu2⟩ : ∃ u2, bs (cut2 (cut2 s.data.toList)) = u2 := ⟨_, rfl⟩
  have hspb : (spL s.data.toList 32).map bs = [c1, u1, u2] := by rw [hsp, ← hc1, ← hu1, ← hu2]; rfl
  have HSP := Lib.hid hspb
  obtain ⟨p, hp⟩ : ∃ p, pA xs s.data.toList = p := ⟨_, rfl⟩
  obtain ⟨q, hq⟩ : ∃ q, pB xs s.data.toList = q := ⟨_, rfl⟩
  have HP1 := Lib.hid (show plI xs (rdI u1.data.toList) = p from by rw [← hu1, ← hp]; rfl)
  have HP2 := Lib.hid (show plI xs (rdI u2.data.toList) = q from by rw [← hu2, ← hq]; rfl)
  have hcw : c1.data.toList = cut1 s.data.toList := by rw [← hc1]; rfl
  rw [hp] at hX
  rw [hq] at hY
  subst hX; subst hY
  have hno1 : decide ((X : Int) < 0) = false := decide_eq_false (by omega)
  have hno2 : decide ((Y : Int) < 0) = false := decide_eq_false (by omega)
  have kt0 : (c1.toList == [115, 117, 109]) = true := by rw [eqW, hcw]; exact decide_eq_true g0
  clear hdk hrd hsp hc1 hu1 hu2 hspb hp hq hcw
  clear hta hsw hsv htv hs2
  have hdd := h
  obtain ⟨a, c, b, c2, rfl, _⟩ := h.parts
  have q1 := alloc_below w (.cells #[.slice a xs.length c, .slice b L.length c2] 31)
  have q2 := alloc_below (w.alloc (.cells #[.slice a xs.length c, .slice b L.length c2] 31)) (.cells #[.slice none 0 0, .slice none 0 0] 31)
  have HV := Lib.hid ((VarD.new hdd).kept q2)
  have hbr := Blk2.new (w.alloc (.cells #[.slice a xs.length c, .slice b L.length c2] 31)) 31 (.slice none 0 0) (.slice none 0 0)
  rw [alloc_size] at hbr
  have HBR := Lib.hid hbr
  have HB := Lib.hid (below_onto q1 q2)
  obtain ⟨w2, hw2⟩ : ∃ w2, (w.alloc (.cells #[.slice a xs.length c, .slice b L.length c2] 31)).alloc (.cells #[.slice none 0 0, .slice none 0 0] 31) = w2 := ⟨_, rfl⟩
  rw [hw2] at HV HBR HB
  have hd0 := HV.out.blk.cell.1; have hd1 := HV.out.blk.cell.2
  clear h hdd q1 q2 hbr
  go_enter Tryz.func21, Tryz.ntmps21
  go_wp2_with fail
  clear hw2
  refine (specDeskOk_any _ xs L _ HV.out.d).mono ?_
  rintro e w3 ⟨rfl, hb⟩
  rw [HDK.out]
  replace HV := Lib.hid (HV.out.kept hb); replace HBR := Lib.hid (HBR.out.kept hb HBR.out.lt); replace HB := Lib.hid (below_onto HB.out hb)
  clear hb hd0 hd1
  have hd0 := HV.out.blk.cell.1; have hd1 := HV.out.blk.cell.2
  have HB3 := HB
  have HLT := Lib.hid (show w.heap.size + 1 < w3.heap.size from HBR.out.lt)
  go_wp2_with fail
  refine (l12Copy_any _ xs L HDK.out _ HV.out.d).mono ?_
  rintro e w4 ⟨v1, v2, rfl, hgo⟩
  have hg := hgo.desk
  obtain ⟨p1, e1, rfl⟩ := hg.one
  obtain ⟨p2, e2, rfl⟩ := hg.two
  have HG := Lib.hid hg
  have hal := alloc_below w4 (.cells #[.slice p1 xs.length e1, .slice p2 L.length e2] 31)
  have HO := Lib.hid (Blk2.new w4 31 (.slice p1 xs.length e1) (.slice p2 L.length e2))
  have HB4 := Lib.hid hal
  have hb := below_onto hg.below hal
  have HNO := Lib.hid (show w.heap.size + 1 < w4.heap.size from Nat.lt_of_lt_of_le HLT.out hg.below.size)
  replace HV := Lib.hid (HV.out.kept hb); replace HBR := Lib.hid (HBR.out.kept hb HBR.out.lt); replace HB := Lib.hid (below_onto HB.out hb)
  obtain ⟨w5, hw5⟩ : ∃ w5, w4.alloc (.cells #[.slice p1 xs.length e1, .slice p2 L.length e2] 31) = w5 := ⟨_, rfl⟩
  obtain ⟨O, hO⟩ : ∃ O, w4.heap.size = O := ⟨_, rfl⟩
  rw [hw5] at HV HBR HB HO HB4
  rw [hO] at HO HNO
  clear hgo hg hal hb hd0 hd1
  go_wp2_with fail
  clear hw5 hO
  refine (specReadDeed_any s hs _).mono ?_
  rintro e w6 ⟨rfl, hb⟩
  rw [HRD.out]
  obtain ⟨rk, hrk⟩ : ∃ rk, rdK s.data.toList = rk := ⟨_, rfl⟩
  obtain ⟨ry, hry⟩ : ∃ ry, rdY s.data.toList = ry := ⟨_, rfl⟩
  rw [hrk, hry]
  have hal := alloc_below w6 (.cells #[.int .i64 rk, .int .i64 ry] 39)
  have HE7 := Lib.hid (Blk2.new w6 39 (.int .i64 rk) (.int .i64 ry))
  replace hb := below_onto hb hal
  replace HV := Lib.hid (HV.out.kept hb); replace HBR := Lib.hid (HBR.out.kept hb HBR.out.lt); replace HB := Lib.hid (below_onto HB.out hb)
  replace HO := Lib.hid (HO.out.kept hb HO.out.lt); replace HB4 := Lib.hid (below_onto HB4.out hb)
  obtain ⟨w7, hw7⟩ : ∃ w7, w6.alloc (.cells #[.int .i64 rk, .int .i64 ry] 39) = w7 := ⟨_, rfl⟩
  obtain ⟨E, hE⟩ : ∃ E, w6.heap.size = E := ⟨_, rfl⟩
  rw [hw7] at HV HBR HB HO HB4 HE7
  rw [hE] at HE7
  have hd0 := HV.out.blk.cell.1; have hd1 := HV.out.blk.cell.2
  have HRK := Lib.hid hrk; have HRY := Lib.hid hry
  clear hb hal hrk hry
  go_wp2_with fail
  clear hw7 hE
  refine (specWorldFrom_any a xs.length c (fun j => xs.getD j 0) _ HV.out.d.now).mono ?_
  intro e w8 hg8
  obtain ⟨g, cap, rfl, hi, hb⟩ := wd_gives HF.out hg8
  have HI := Lib.hid hi
  replace HV := Lib.hid (HV.out.kept hb); replace HBR := Lib.hid (HBR.out.kept hb HBR.out.lt); replace HB := Lib.hid (below_onto HB.out hb)
  replace HO := Lib.hid (HO.out.kept hb HO.out.lt); replace HB4 := Lib.hid (below_onto HB4.out hb)
  clear hg8 hi hb hd0 hd1
  go_wp2_with fail
  refine (l1Cut_any s 32 hs _).mono ?_
  rintro e w9 ⟨v, rfl, hown, hb⟩
  rw [HSP.out] at hown
  obtain ⟨g9, c9, m, rfl, hm3, _, _, hx0, hx1, hx2⟩ := own3 hown
  replace HV := Lib.hid (HV.out.kept hb); replace HBR := Lib.hid (HBR.out.kept hb HBR.out.lt); replace HB := Lib.hid (below_onto HB.out hb)
  replace HO := Lib.hid (HO.out.kept hb HO.out.lt); replace HB4 := Lib.hid (below_onto HB4.out hb)
  have HBX := Lib.hid hb
  clear hown hb
  have hne : ((m : Int) != 3) = false := by simp; omega
  have hb1 : (1 : Int) < (m : Int) := by omega
  have hb2 : (2 : Int) < (m : Int) := by omega
  have hb0 : (0 : Int) < (m : Int) := by omega
  clear hm3
  go_wp2_with fail
  refine (l12Place_any a c xs u1 _ HV.out.d.now).mono ?_
  rintro e w' ⟨rfl, rfl⟩
  rw [HP1.out]
  go_wp2_with fail
  refine (l12Place_any a c xs u2 _ HV.out.d.now).mono ?_
  rintro e w' ⟨rfl, rfl⟩
  rw [HP2.out]
  have HR := Lib.hid (show ∀ W', Below w9.heap.size w9 W' → Blk2 W' (w.heap.size + 1) 31 (.slice none 0 0) (.slice none 0 0) from fun W' hW => HBR.out.kept hW HBR.out.lt)
  have HKS := Lib.hid (show ∀ W', Below w9.heap.size w9 W' → (W'.cell? ⟨O, 0, none⟩ = some (.slice p1 xs.length e1) ∧ W'.cell? ⟨O, 1, none⟩ = some (.slice p2 L.length e2)) from fun W' hW => (HO.out.kept hW HO.out.lt).cell)
  have HKW := Lib.hid (show ∀ W' W'' : World, Below w9.heap.size w9 W' → W''.heap[O]? = W'.heap[O]? → (W''.cell? ⟨O, 0, none⟩ = some (.slice p1 xs.length e1) ∧ W''.cell? ⟨O, 1, none⟩ = some (.slice p2 L.length e2)) from fun W' W'' hW hW' => Blk2.cell (show Blk2 W'' O 31 _ _ from hW'.trans (HO.out.kept hW HO.out.lt)))
  have hn1 : ¬ O = w.heap.size + 1 := by have := HNO.out; omega
  have HN1 := Lib.hid hn1
  have HB6 := Lib.hid (Below.refl w9.heap.size w9)
  have hr0 := (HR.out _ HB6.out).cell.1; have hr1 := (HR.out _ HB6.out).cell.2; have hr2 := (HR.out _ HB6.out).frozen 0; have hr3 := (HR.out _ HB6.out).frozen 1
  go_upto_region 44 with fail
  go_region_held3 (fun W => W.cell? ⟨O, 0, none⟩ = some (.slice p1 xs.length e1) ∧ W.cell? ⟨O, 1, none⟩ = some (.slice p2 L.length e2)) (first | exact HKS.out _ HB6.out | exact HKS.out _ HB6.out.drew | exact HKS.out _ (below_drewN HB6.out _) | exact HKW.out _ _ HB6.out ((set_blk HN1.out).trans (set_blk HN1.out)) | go_keep)
    (first | (go_at_call 80; rw [HSV.out]; refine (specSumsOf_any _ _ _ _ sv _ (HI.out.below (below_onto HBX.out (by first | with_reducible exact HB6.out | with_reducible exact HB6.out.drew | with_reducible exact below_drewN HB6.out _)) (Nat.le_refl _))).mono ?_; rintro e w10 ⟨rfl, hd⟩; have hb := hd.below; clear hd; rw [HTV.out]; have HZ := Lib.hid (below_onto (show Below w9.heap.size w9 _ from (by first | with_reducible exact HB6.out | with_reducible exact HB6.out.drew | with_reducible exact below_drewN HB6.out _)) hb); clear HB6; have HB6 := HZ; clear HZ; clear hb; clear hr0 hr1 hr2 hr3; have hr0 := (HR.out _ HB6.out).cell.1; have hr1 := (HR.out _ HB6.out).cell.2; have hr2 := (HR.out _ HB6.out).frozen 0; have hr3 := (HR.out _ HB6.out).frozen 1) | (go_at_call 69; refine (l12Sets_any a c xs tv HS0.out HF.out _ (HV.out.d.now.below (by first | with_reducible exact HB6.out | with_reducible exact HB6.out.drew | with_reducible exact below_drewN HB6.out _) (Nat.le_refl _))).mono ?_; rintro e w11 ⟨rfl, rfl⟩; rw [HSE.out]))
  all_goals
    go_wp2_with fail
    refine bodyPost_ret (results_desk rfl _ _ (w.heap.size + 1) (((HR.out _ HB6.out).set0 _).set1 _) rfl rfl (by kernel_rfl)) rfl ?_
    first
      | exact ⟨_, _, rfl, HG.out.fin HB3.out (Nat.le_succ _) HLT.out (below_onto HB4.out HB6.out)⟩
      | exact ⟨_, _, rfl, (HG.out.fin HB3.out (Nat.le_succ _) HLT.out (below_onto HB4.out HB6.out)).drew⟩
end Go.Proofs.YthaickihoagnmaaGreatDoor
