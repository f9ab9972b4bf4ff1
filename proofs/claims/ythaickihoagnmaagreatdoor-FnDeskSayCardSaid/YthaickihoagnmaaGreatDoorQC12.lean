import Derived.Test.YthaickihoagnmaaGreatDoorQC11
set_option linter.unusedVariables false
set_option linter.unusedSimpArgs false
set_option maxHeartbeats 12800000
namespace Go.Proofs.YthaickihoagnmaaGreatDoor
open Go.RowKit Go.Maps
theorem eqW {t : ByteArray} {l : List UInt8} : (t.toList == l) = decide (t.data.toList = l) := by
  rw [toList_data']
  by_cases h : t.data.toList = l
  · rw [decide_eq_true h, h]; simp
  · rw [decide_eq_false h]; simpa using h
set_option maxRecDepth 100000 in
theorem specLine_all (d : Value) (xs : List Int) (L : List (List Int)) (s : ByteArray) (hs : s.size ≤ 1048600) (hdk : deskB xs L = true) (hrd : rdDB s.data.toList = false) (h0 : s.data.toList = allW) (w : World) (h : DeskR w d xs L) :
    Calls Tryz.prog 21 #[d, .string s] w (LineD xs L (allA xs) w) := by
  have HDK := Lib.hid hdk; have HRD := Lib.hid hrd
  have hf := (deskB_iff.1 hdk).1
  have HF := Lib.hid hf
  have hl := famL_len hf
  obtain ⟨ta, hta⟩ : ∃ ta, bs (allA xs) = ta := ⟨_, rfl⟩
  unfold LineD
  rw [hta]
  have kh0 : (s.toList == [97, 108, 108]) = true := by rw [eqW]; exact decide_eq_true h0
  have hwl := wrap_low8 (a := xs.length) (by omega)
  have hpw := pow_bounds xs.length (by omega)
  obtain ⟨sv, hsv⟩ : ∃ sv : Int, (2 : Int) ^ xs.length - 1 = sv := ⟨_, rfl⟩
  have HSE := Lib.hid (show bs (setsW xs sv) = ta from by rw [← hta, ← hsv]; rfl)
  rw [hsv] at hwl
  have HSV := Lib.hid hwl; have HS0 := Lib.hid (show 0 ≤ sv by rw [← hsv]; omega)
  clear hwl hsv
  clear hdk hrd hta
  have hdd := h
  obtain ⟨a, c, b, c2, rfl, _⟩ := h.parts
  have q1 := alloc_below w (.cells #[.slice a xs.length c, .slice b L.length c2] 31)
  have q2 := alloc_below (w.alloc (.cells #[.slice a xs.length c, .slice b L.length c2] 31)) (.cells #[.slice none 0 0, .slice none 0 0] 31)
  have HV := Lib.hid ((VarD.new hdd).kept q2)
  have hbr := Blk2.new (w.alloc (.cells #[.slice a xs.length c, .slice b L.length c2] 31)) 31 (.slice none 0 0) (.slice none 0 0)
  rw [alloc_size] at hbr
  have HBR := Lib.hid hbr
  have HB := Lib.hid (below_onto q1 q2)
  obtain ⟨w2, hw2⟩ : ∃ w2, (w.alloc (.cells #[.slice a xs.length c, .slice b L.length c2] 31)).alloc (.cells #[.slice none 0 0, .slice none 0 0] 31) = w2 := ⟨_, rfl⟩
  rw [hw2] at HV HBR HB
  have hd0 := HV.out.blk.cell.1; have hd1 := HV.out.blk.cell.2
  clear h hdd q1 q2 hbr
  go_enter Tryz.func21, Tryz.ntmps21
  go_wp2_with fail
  clear hw2
  refine (specDeskOk_any _ xs L _ HV.out.d).mono ?_
  rintro e w3 ⟨rfl, hb⟩
  rw [HDK.out]
  replace HV := Lib.hid (HV.out.kept hb); replace HBR := Lib.hid (HBR.out.kept hb HBR.out.lt); replace HB := Lib.hid (below_onto HB.out hb)
  clear hb hd0 hd1
  have hd0 := HV.out.blk.cell.1; have hd1 := HV.out.blk.cell.2
  have HB3 := HB
  have HLT := Lib.hid (show w.heap.size + 1 < w3.heap.size from HBR.out.lt)
  go_wp2_with fail
  refine (l12Copy_any _ xs L HDK.out _ HV.out.d).mono ?_
  rintro e w4 ⟨v1, v2, rfl, hgo⟩
  have hg := hgo.desk
  obtain ⟨p1, e1, rfl⟩ := hg.one
  obtain ⟨p2, e2, rfl⟩ := hg.two
  have HG := Lib.hid hg
  have hal := alloc_below w4 (.cells #[.slice p1 xs.length e1, .slice p2 L.length e2] 31)
  have HO := Lib.hid (Blk2.new w4 31 (.slice p1 xs.length e1) (.slice p2 L.length e2))
  have HB4 := Lib.hid hal
  have hb := below_onto hg.below hal
  have HNO := Lib.hid (show w.heap.size + 1 < w4.heap.size from Nat.lt_of_lt_of_le HLT.out hg.below.size)
  replace HV := Lib.hid (HV.out.kept hb); replace HBR := Lib.hid (HBR.out.kept hb HBR.out.lt); replace HB := Lib.hid (below_onto HB.out hb)
  obtain ⟨w5, hw5⟩ : ∃ w5, w4.alloc (.cells #[.slice p1 xs.length e1, .slice p2 L.length e2] 31) = w5 := ⟨_, rfl⟩
  obtain ⟨O, hO⟩ : ∃ O, w4.heap.size = O := ⟨_, rfl⟩
  rw [hw5] at HV HBR HB HO HB4
  rw [hO] at HO HNO
  clear hgo hg hal hb hd0 hd1
  go_wp2_with fail
  clear hw5 hO
  refine (specReadDeed_any s hs _).mono ?_
  rintro e w6 ⟨rfl, hb⟩
  rw [HRD.out]
  obtain ⟨rk, hrk⟩ : ∃ rk, rdK s.data.toList = rk := ⟨_, rfl⟩
  obtain ⟨ry, hry⟩ : ∃ ry, rdY s.data.toList = ry := ⟨_, rfl⟩
  rw [hrk, hry]
  have hal := alloc_below w6 (.cells #[.int .i64 rk, .int .i64 ry] 39)
  have HE7 := Lib.hid (Blk2.new w6 39 (.int .i64 rk) (.int .i64 ry))
  replace hb := below_onto hb hal
  replace HV := Lib.hid (HV.out.kept hb); replace HBR := Lib.hid (HBR.out.kept hb HBR.out.lt); replace HB := Lib.hid (below_onto HB.out hb)
  replace HO := Lib.hid (HO.out.kept hb HO.out.lt); replace HB4 := Lib.hid (below_onto HB4.out hb)
  obtain ⟨w7, hw7⟩ : ∃ w7, w6.alloc (.cells #[.int .i64 rk, .int .i64 ry] 39) = w7 := ⟨_, rfl⟩
  obtain ⟨E, hE⟩ : ∃ E, w6.heap.size = E := ⟨_, rfl⟩
  rw [hw7] at HV HBR HB HO HB4 HE7
  rw [hE] at HE7
  have hd0 := HV.out.blk.cell.1; have hd1 := HV.out.blk.cell.2
  have HRK := Lib.hid hrk; have HRY := Lib.hid hry
  clear hb hal hrk hry
  go_wp2_with fail
  clear hw7 hE
  refine (specWorldFrom_any a xs.length c (fun j => xs.getD j 0) _ HV.out.d.now).mono ?_
  intro e w8 hg8
  obtain ⟨g, cap, rfl, hi, hb⟩ := wd_gives HF.out hg8
  have HI := Lib.hid hi
  replace HV := Lib.hid (HV.out.kept hb); replace HBR := Lib.hid (HBR.out.kept hb HBR.out.lt); replace HB := Lib.hid (below_onto HB.out hb)
  replace HO := Lib.hid (HO.out.kept hb HO.out.lt); replace HB4 := Lib.hid (below_onto HB4.out hb)
  clear hg8 hi hb hd0 hd1
  have HR := Lib.hid (show ∀ W', Below w8.heap.size w8 W' → Blk2 W' (w.heap.size + 1) 31 (.slice none 0 0) (.slice none 0 0) from fun W' hW => HBR.out.kept hW HBR.out.lt)
  have HKS := Lib.hid (show ∀ W', Below w8.heap.size w8 W' → (W'.cell? ⟨O, 0, none⟩ = some (.slice p1 xs.length e1) ∧ W'.cell? ⟨O, 1, none⟩ = some (.slice p2 L.length e2)) from fun W' hW => (HO.out.kept hW HO.out.lt).cell)
  have HKW := Lib.hid (show ∀ W' W'' : World, Below w8.heap.size w8 W' → W''.heap[O]? = W'.heap[O]? → (W''.cell? ⟨O, 0, none⟩ = some (.slice p1 xs.length e1) ∧ W''.cell? ⟨O, 1, none⟩ = some (.slice p2 L.length e2)) from fun W' W'' hW hW' => Blk2.cell (show Blk2 W'' O 31 _ _ from hW'.trans (HO.out.kept hW HO.out.lt)))
  have hn1 : ¬ O = w.heap.size + 1 := by have := HNO.out; omega
  have HN1 := Lib.hid hn1
  have HB6 := Lib.hid (Below.refl w8.heap.size w8)
  have hr0 := (HR.out _ HB6.out).cell.1; have hr1 := (HR.out _ HB6.out).cell.2; have hr2 := (HR.out _ HB6.out).frozen 0; have hr3 := (HR.out _ HB6.out).frozen 1
  go_upto_region 14 with fail
  go_region_held3 (fun W => W.cell? ⟨O, 0, none⟩ = some (.slice p1 xs.length e1) ∧ W.cell? ⟨O, 1, none⟩ = some (.slice p2 L.length e2)) (first | exact HKS.out _ HB6.out | exact HKS.out _ HB6.out.drew | exact HKS.out _ (below_drewN HB6.out _) | exact HKW.out _ _ HB6.out ((set_blk HN1.out).trans (set_blk HN1.out)) | go_keep)
    (first | (go_at_call 69; rw [HSV.out]; refine (l12Sets_any a c xs sv HS0.out HF.out _ (HV.out.d.now.below (by first | with_reducible exact HB6.out | with_reducible exact HB6.out.drew | with_reducible exact below_drewN HB6.out _) (Nat.le_refl _))).mono ?_; rintro e w9 ⟨rfl, rfl⟩; rw [HSE.out]))
  all_goals
    go_wp2_with fail
    refine bodyPost_ret (results_desk rfl _ _ (w.heap.size + 1) (((HR.out _ HB6.out).set0 _).set1 _) rfl rfl (by kernel_rfl)) rfl ?_
    first
      | exact ⟨_, _, rfl, HG.out.fin HB3.out (Nat.le_succ _) HLT.out (below_onto HB4.out HB6.out)⟩
      | exact ⟨_, _, rfl, (HG.out.fin HB3.out (Nat.le_succ _) HLT.out (below_onto HB4.out HB6.out)).drew⟩
set_option maxRecDepth 100000 in
theorem specLine_company (d : Value) (xs : List Int) (L : List (List Int)) (s : ByteArray) (hs : s.size ≤ 1048600) (hdk : deskB xs L = true) (hrd : rdDB s.data.toList = false) (h0 : s.data.toList ≠ allW) (h1 : s.data.toList = companyW) (w : World) (h : DeskR w d xs L) :
    Calls Tryz.prog 21 #[d, .string s] w (LineD xs L (companyA xs) w) := by
  have HDK := Lib.hid hdk; have HRD := Lib.hid hrd
  have hf := (deskB_iff.1 hdk).1
  have HF := Lib.hid hf
  have hl := famL_len hf
  obtain ⟨ta, hta⟩ : ∃ ta, bs (companyA xs) = ta := ⟨_, rfl⟩
  unfold LineD
  rw [hta]
  have kh0 : (s.toList == [97, 108, 108]) = false := by rw [eqW]; exact decide_eq_false h0
  have kh1 : (s.toList == [99, 111, 109, 112, 97, 110, 121]) = true := by rw [eqW]; exact decide_eq_true h1
  obtain ⟨ok, hok⟩ : ∃ ok, companyB xs.length (wdF xs) = ok := ⟨_, rfl⟩
  have HOK := Lib.hid hok
  have HE := Lib.hid (show bs (ynW ok) = ta from by rw [← hta, ← hok]; rfl)
  clear hok
  clear hdk hrd hta
  have hdd := h
  obtain ⟨a, c, b, c2, rfl, _⟩ := h.parts
  have q1 := alloc_below w (.cells #[.slice a xs.length c, .slice b L.length c2] 31)
  have q2 := alloc_below (w.alloc (.cells #[.slice a xs.length c, .slice b L.length c2] 31)) (.cells #[.slice none 0 0, .slice none 0 0] 31)
  have HV := Lib.hid ((VarD.new hdd).kept q2)
  have hbr := Blk2.new (w.alloc (.cells #[.slice a xs.length c, .slice b L.length c2] 31)) 31 (.slice none 0 0) (.slice none 0 0)
  rw [alloc_size] at hbr
  have HBR := Lib.hid hbr
  have HB := Lib.hid (below_onto q1 q2)
  obtain ⟨w2, hw2⟩ : ∃ w2, (w.alloc (.cells #[.slice a xs.length c, .slice b L.length c2] 31)).alloc (.cells #[.slice none 0 0, .slice none 0 0] 31) = w2 := ⟨_, rfl⟩
  rw [hw2] at HV HBR HB
  have hd0 := HV.out.blk.cell.1; have hd1 := HV.out.blk.cell.2
  clear h hdd q1 q2 hbr
  go_enter Tryz.func21, Tryz.ntmps21
  go_wp2_with fail
  clear hw2
  refine (specDeskOk_any _ xs L _ HV.out.d).mono ?_
  rintro e w3 ⟨rfl, hb⟩
  rw [HDK.out]
  replace HV := Lib.hid (HV.out.kept hb); replace HBR := Lib.hid (HBR.out.kept hb HBR.out.lt); replace HB := Lib.hid (below_onto HB.out hb)
  clear hb hd0 hd1
  have hd0 := HV.out.blk.cell.1; have hd1 := HV.out.blk.cell.2
  have HB3 := HB
  have HLT := Lib.hid (show w.heap.size + 1 < w3.heap.size from HBR.out.lt)
  go_wp2_with fail
  refine (l12Copy_any _ xs L HDK.out _ HV.out.d).mono ?_
  rintro e w4 ⟨v1, v2, rfl, hgo⟩
  have hg := hgo.desk
  obtain ⟨p1, e1, rfl⟩ := hg.one
  obtain ⟨p2, e2, rfl⟩ := hg.two
  have HG := Lib.hid hg
  have hal := alloc_below w4 (.cells #[.slice p1 xs.length e1, .slice p2 L.length e2] 31)
  have HO := Lib.hid (Blk2.new w4 31 (.slice p1 xs.length e1) (.slice p2 L.length e2))
  have HB4 := Lib.hid hal
  have hb := below_onto hg.below hal
  have HNO := Lib.hid (show w.heap.size + 1 < w4.heap.size from Nat.lt_of_lt_of_le HLT.out hg.below.size)
  replace HV := Lib.hid (HV.out.kept hb); replace HBR := Lib.hid (HBR.out.kept hb HBR.out.lt); replace HB := Lib.hid (below_onto HB.out hb)
  obtain ⟨w5, hw5⟩ : ∃ w5, w4.alloc (.cells #[.slice p1 xs.length e1, .slice p2 L.length e2] 31) = w5 := ⟨_, rfl⟩
  obtain ⟨O, hO⟩ : ∃ O, w4.heap.size = O := ⟨_, rfl⟩
  rw [hw5] at HV HBR HB HO HB4
  rw [hO] at HO HNO
  clear hgo hg hal hb hd0 hd1
  go_wp2_with fail
  clear hw5 hO
  refine (specReadDeed_any s hs _).mono ?_
  rintro e w6 ⟨rfl, hb⟩
  rw [HRD.out]
  obtain ⟨rk, hrk⟩ : ∃ rk, rdK s.data.toList = rk := ⟨_, rfl⟩
  obtain ⟨ry, hry⟩ : ∃ ry, rdY s.data.toList = ry := ⟨_, rfl⟩
  rw [hrk, hry]
  have hal := alloc_below w6 (.cells #[.int .i64 rk, .int .i64 ry] 39)
  have HE7 := Lib.hid (Blk2.new w6 39 (.int .i64 rk) (.int .i64 ry))
  replace hb := below_onto hb hal
  replace HV := Lib.hid (HV.out.kept hb); replace HBR := Lib.hid (HBR.out.kept hb HBR.out.lt); replace HB := Lib.hid (below_onto HB.out hb)
  replace HO := Lib.hid (HO.out.kept hb HO.out.lt); replace HB4 := Lib.hid (below_onto HB4.out hb)
  obtain ⟨w7, hw7⟩ : ∃ w7, w6.alloc (.cells #[.int .i64 rk, .int .i64 ry] 39) = w7 := ⟨_, rfl⟩
  obtain ⟨E, hE⟩ : ∃ E, w6.heap.size = E := ⟨_, rfl⟩
  rw [hw7] at HV HBR HB HO HB4 HE7
  rw [hE] at HE7
  have hd0 := HV.out.blk.cell.1; have hd1 := HV.out.blk.cell.2
  have HRK := Lib.hid hrk; have HRY := Lib.hid hry
  clear hb hal hrk hry
  go_wp2_with fail
  clear hw7 hE
  refine (specWorldFrom_any a xs.length c (fun j => xs.getD j 0) _ HV.out.d.now).mono ?_
  intro e w8 hg8
  obtain ⟨g, cap, rfl, hi, hb⟩ := wd_gives HF.out hg8
  have HI := Lib.hid hi
  replace HV := Lib.hid (HV.out.kept hb); replace HBR := Lib.hid (HBR.out.kept hb HBR.out.lt); replace HB := Lib.hid (below_onto HB.out hb)
  replace HO := Lib.hid (HO.out.kept hb HO.out.lt); replace HB4 := Lib.hid (below_onto HB4.out hb)
  clear hg8 hi hb hd0 hd1
  have HR := Lib.hid (show ∀ W', Below w8.heap.size w8 W' → Blk2 W' (w.heap.size + 1) 31 (.slice none 0 0) (.slice none 0 0) from fun W' hW => HBR.out.kept hW HBR.out.lt)
  have HKS := Lib.hid (show ∀ W', Below w8.heap.size w8 W' → (W'.cell? ⟨O, 0, none⟩ = some (.slice p1 xs.length e1) ∧ W'.cell? ⟨O, 1, none⟩ = some (.slice p2 L.length e2)) from fun W' hW => (HO.out.kept hW HO.out.lt).cell)
  have HKW := Lib.hid (show ∀ W' W'' : World, Below w8.heap.size w8 W' → W''.heap[O]? = W'.heap[O]? → (W''.cell? ⟨O, 0, none⟩ = some (.slice p1 xs.length e1) ∧ W''.cell? ⟨O, 1, none⟩ = some (.slice p2 L.length e2)) from fun W' W'' hW hW' => Blk2.cell (show Blk2 W'' O 31 _ _ from hW'.trans (HO.out.kept hW HO.out.lt)))
  have hn1 : ¬ O = w.heap.size + 1 := by have := HNO.out; omega
  have HN1 := Lib.hid hn1
  have HB6 := Lib.hid (Below.refl w8.heap.size w8)
  have hr0 := (HR.out _ HB6.out).cell.1; have hr1 := (HR.out _ HB6.out).cell.2; have hr2 := (HR.out _ HB6.out).frozen 0; have hr3 := (HR.out _ HB6.out).frozen 1
  go_upto_region 16 with fail
  go_region_held3 (fun W => W.cell? ⟨O, 0, none⟩ = some (.slice p1 xs.length e1) ∧ W.cell? ⟨O, 1, none⟩ = some (.slice p2 L.length e2)) (first | exact HKS.out _ HB6.out | exact HKS.out _ HB6.out.drew | exact HKS.out _ (below_drewN HB6.out _) | exact HKW.out _ _ HB6.out ((set_blk HN1.out).trans (set_blk HN1.out)) | go_keep)
    (first | (go_at_call 71; refine (specCompanyOk_any _ _ _ _ _ (by first | with_reducible exact HI.out.below HB6.out (Nat.le_refl _) | with_reducible exact HI.out.below HB6.out.drew (Nat.le_refl _) | with_reducible exact HI.out.below (below_drewN HB6.out _) (Nat.le_refl _))).mono ?_; rintro e w9 ⟨rfl, hd⟩; have hb := hd.below; clear hd; rw [HOK.out]; have HZ := Lib.hid (below_onto (show Below w8.heap.size w8 _ from (by first | with_reducible exact HB6.out | with_reducible exact HB6.out.drew | with_reducible exact below_drewN HB6.out _)) hb); clear HB6; have HB6 := HZ; clear HZ; clear hb; clear hr0 hr1 hr2 hr3; have hr0 := (HR.out _ HB6.out).cell.1; have hr1 := (HR.out _ HB6.out).cell.2; have hr2 := (HR.out _ HB6.out).frozen 0; have hr3 := (HR.out _ HB6.out).frozen 1) | (go_at_call 70; refine (l12Yes_any ok _).mono ?_; rintro e w10 ⟨rfl, rfl⟩; rw [HE.out]))
  all_goals
    go_wp2_with fail
    refine bodyPost_ret (results_desk rfl _ _ (w.heap.size + 1) (((HR.out _ HB6.out).set0 _).set1 _) rfl rfl (by kernel_rfl)) rfl ?_
    first
      | exact ⟨_, _, rfl, HG.out.fin HB3.out (Nat.le_succ _) HLT.out (below_onto HB4.out HB6.out)⟩
      | exact ⟨_, _, rfl, (HG.out.fin HB3.out (Nat.le_succ _) HLT.out (below_onto HB4.out HB6.out)).drew⟩
set_option maxRecDepth 100000 in
theorem specLine_weak (d : Value) (xs : List Int) (L : List (List Int)) (s : ByteArray) (hs : s.size ≤ 1048600) (hdk : deskB xs L = true) (hrd : rdDB s.data.toList = false) (h0 : s.data.toList ≠ allW) (h1 : s.data.toList ≠ companyW) (h2 : s.data.toList = weakW) (w : World) (h : DeskR w d xs L) :
    Calls Tryz.prog 21 #[d, .string s] w (LineD xs L (weakA xs) w) := by
  have HDK := Lib.hid hdk; have HRD := Lib.hid hrd
  have hf := (deskB_iff.1 hdk).1
  have HF := Lib.hid hf
  have hl := famL_len hf
  obtain ⟨ta, hta⟩ : ∃ ta, bs (weakA xs) = ta := ⟨_, rfl⟩
  unfold LineD
  rw [hta]
  have kh0 : (s.toList == [97, 108, 108]) = false := by rw [eqW]; exact decide_eq_false h0
  have kh1 : (s.toList == [99, 111, 109, 112, 97, 110, 121]) = false := by rw [eqW]; exact decide_eq_false h1
  have kh2 : (s.toList == [119, 101, 97, 107]) = true := by rw [eqW]; exact decide_eq_true h2
  obtain ⟨ok, hok⟩ : ∃ ok, weakB xs.length (wdF xs) = ok := ⟨_, rfl⟩
  have HOK := Lib.hid hok
  have HE := Lib.hid (show bs (ynW ok) = ta from by rw [← hta, ← hok]; rfl)
  clear hok
  clear hdk hrd hta
  have hdd := h
  obtain ⟨a, c, b, c2, rfl, _⟩ := h.parts
  have q1 := alloc_below w (.cells #[.slice a xs.length c, .slice b L.length c2] 31)
  have q2 := alloc_below (w.alloc (.cells #[.slice a xs.length c, .slice b L.length c2] 31)) (.cells #[.slice none 0 0, .slice none 0 0] 31)
  have HV := Lib.hid ((VarD.new hdd).kept q2)
  have hbr := Blk2.new (w.alloc (.cells #[.slice a xs.length c, .slice b L.length c2] 31)) 31 (.slice none 0 0) (.slice none 0 0)
  rw [alloc_size] at hbr
  have HBR := Lib.hid hbr
  have HB := Lib.hid (below_onto q1 q2)
  obtain ⟨w2, hw2⟩ : ∃ w2, (w.alloc (.cells #[.slice a xs.length c, .slice b L.length c2] 31)).alloc (.cells #[.slice none 0 0, .slice none 0 0] 31) = w2 := ⟨_, rfl⟩
  rw [hw2] at HV HBR HB
  have hd0 := HV.out.blk.cell.1; have hd1 := HV.out.blk.cell.2
  clear h hdd q1 q2 hbr
  go_enter Tryz.func21, Tryz.ntmps21
  go_wp2_with fail
  clear hw2
  refine (specDeskOk_any _ xs L _ HV.out.d).mono ?_
  rintro e w3 ⟨rfl, hb⟩
  rw [HDK.out]
  replace HV := Lib.hid (HV.out.kept hb); replace HBR := Lib.hid (HBR.out.kept hb HBR.out.lt); replace HB := Lib.hid (below_onto HB.out hb)
  clear hb hd0 hd1
  have hd0 := HV.out.blk.cell.1; have hd1 := HV.out.blk.cell.2
  have HB3 := HB
  have HLT := Lib.hid (show w.heap.size + 1 < w3.heap.size from HBR.out.lt)
  go_wp2_with fail
  refine (l12Copy_any _ xs L HDK.out _ HV.out.d).mono ?_
  rintro e w4 ⟨v1, v2, rfl, hgo⟩
  have hg := hgo.desk
  obtain ⟨p1, e1, rfl⟩ := hg.one
  obtain ⟨p2, e2, rfl⟩ := hg.two
  have HG := Lib.hid hg
  have hal := alloc_below w4 (.cells #[.slice p1 xs.length e1, .slice p2 L.length e2] 31)
  have HO := Lib.hid (Blk2.new w4 31 (.slice p1 xs.length e1) (.slice p2 L.length e2))
  have HB4 := Lib.hid hal
  have hb := below_onto hg.below hal
  have HNO := Lib.hid (show w.heap.size + 1 < w4.heap.size from Nat.lt_of_lt_of_le HLT.out hg.below.size)
  replace HV := Lib.hid (HV.out.kept hb); replace HBR := Lib.hid (HBR.out.kept hb HBR.out.lt); replace HB := Lib.hid (below_onto HB.out hb)
  obtain ⟨w5, hw5⟩ : ∃ w5, w4.alloc (.cells #[.slice p1 xs.length e1, .slice p2 L.length e2] 31) = w5 := ⟨_, rfl⟩
  obtain ⟨O, hO⟩ : ∃ O, w4.heap.size = O := ⟨_, rfl⟩
  rw [hw5] at HV HBR HB HO HB4
  rw [hO] at HO HNO
  clear hgo hg hal hb hd0 hd1
  go_wp2_with fail
  clear hw5 hO
  refine (specReadDeed_any s hs _).mono ?_
  rintro e w6 ⟨rfl, hb⟩
  rw [HRD.out]
  obtain ⟨rk, hrk⟩ : ∃ rk, rdK s.data.toList = rk := ⟨_, rfl⟩
  obtain ⟨ry, hry⟩ : ∃ ry, rdY s.data.toList = ry := ⟨_, rfl⟩
  rw [hrk, hry]
  have hal := alloc_below w6 (.cells #[.int .i64 rk, .int .i64 ry] 39)
  have HE7 := Lib.hid (Blk2.new w6 39 (.int .i64 rk) (.int .i64 ry))
  replace hb := below_onto hb hal
  replace HV := Lib.hid (HV.out.kept hb); replace HBR := Lib.hid (HBR.out.kept hb HBR.out.lt); replace HB := Lib.hid (below_onto HB.out hb)
  replace HO := Lib.hid (HO.out.kept hb HO.out.lt); replace HB4 := Lib.hid (below_onto HB4.out hb)
  obtain ⟨w7, hw7⟩ : ∃ w7, w6.alloc (.cells #[.int .i64 rk, .int .i64 ry] 39) = w7 := ⟨_, rfl⟩
  obtain ⟨E, hE⟩ : ∃ E, w6.heap.size = E := ⟨_, rfl⟩
  rw [hw7] at HV HBR HB HO HB4 HE7
  rw [hE] at HE7
  have hd0 := HV.out.blk.cell.1; have hd1 := HV.out.blk.cell.2
  have HRK := Lib.hid hrk; have HRY := Lib.hid hry
  clear hb hal hrk hry
  go_wp2_with fail
  clear hw7 hE
  refine (specWorldFrom_any a xs.length c (fun j => xs.getD j 0) _ HV.out.d.now).mono ?_
  intro e w8 hg8
  obtain ⟨g, cap, rfl, hi, hb⟩ := wd_gives HF.out hg8
  have HI := Lib.hid hi
  replace HV := Lib.hid (HV.out.kept hb); replace HBR := Lib.hid (HBR.out.kept hb HBR.out.lt); replace HB := Lib.hid (below_onto HB.out hb)
  replace HO := Lib.hid (HO.out.kept hb HO.out.lt); replace HB4 := Lib.hid (below_onto HB4.out hb)
  clear hg8 hi hb hd0 hd1
  have HR := Lib.hid (show ∀ W', Below w8.heap.size w8 W' → Blk2 W' (w.heap.size + 1) 31 (.slice none 0 0) (.slice none 0 0) from fun W' hW => HBR.out.kept hW HBR.out.lt)
  have HKS := Lib.hid (show ∀ W', Below w8.heap.size w8 W' → (W'.cell? ⟨O, 0, none⟩ = some (.slice p1 xs.length e1) ∧ W'.cell? ⟨O, 1, none⟩ = some (.slice p2 L.length e2)) from fun W' hW => (HO.out.kept hW HO.out.lt).cell)
  have HKW := Lib.hid (show ∀ W' W'' : World, Below w8.heap.size w8 W' → W''.heap[O]? = W'.heap[O]? → (W''.cell? ⟨O, 0, none⟩ = some (.slice p1 xs.length e1) ∧ W''.cell? ⟨O, 1, none⟩ = some (.slice p2 L.length e2)) from fun W' W'' hW hW' => Blk2.cell (show Blk2 W'' O 31 _ _ from hW'.trans (HO.out.kept hW HO.out.lt)))
  have hn1 : ¬ O = w.heap.size + 1 := by have := HNO.out; omega
  have HN1 := Lib.hid hn1
  have HB6 := Lib.hid (Below.refl w8.heap.size w8)
  have hr0 := (HR.out _ HB6.out).cell.1; have hr1 := (HR.out _ HB6.out).cell.2; have hr2 := (HR.out _ HB6.out).frozen 0; have hr3 := (HR.out _ HB6.out).frozen 1
  go_upto_region 18 with fail
  go_region_held3 (fun W => W.cell? ⟨O, 0, none⟩ = some (.slice p1 xs.length e1) ∧ W.cell? ⟨O, 1, none⟩ = some (.slice p2 L.length e2)) (first | exact HKS.out _ HB6.out | exact HKS.out _ HB6.out.drew | exact HKS.out _ (below_drewN HB6.out _) | exact HKW.out _ _ HB6.out ((set_blk HN1.out).trans (set_blk HN1.out)) | go_keep)
    (first | (go_at_call 72; refine (specWeakOk_any _ _ _ _ _ (by first | with_reducible exact HI.out.below HB6.out (Nat.le_refl _) | with_reducible exact HI.out.below HB6.out.drew (Nat.le_refl _) | with_reducible exact HI.out.below (below_drewN HB6.out _) (Nat.le_refl _))).mono ?_; rintro e w9 ⟨rfl, hd⟩; have hb := hd.below; clear hd; rw [HOK.out]; have HZ := Lib.hid (below_onto (show Below w8.heap.size w8 _ from (by first | with_reducible exact HB6.out | with_reducible exact HB6.out.drew | with_reducible exact below_drewN HB6.out _)) hb); clear HB6; have HB6 := HZ; clear HZ; clear hb; clear hr0 hr1 hr2 hr3; have hr0 := (HR.out _ HB6.out).cell.1; have hr1 := (HR.out _ HB6.out).cell.2; have hr2 := (HR.out _ HB6.out).frozen 0; have hr3 := (HR.out _ HB6.out).frozen 1) | (go_at_call 70; refine (l12Yes_any ok _).mono ?_; rintro e w10 ⟨rfl, rfl⟩; rw [HE.out]))
  all_goals
    go_wp2_with fail
    refine bodyPost_ret (results_desk rfl _ _ (w.heap.size + 1) (((HR.out _ HB6.out).set0 _).set1 _) rfl rfl (by kernel_rfl)) rfl ?_
    first
      | exact ⟨_, _, rfl, HG.out.fin HB3.out (Nat.le_succ _) HLT.out (below_onto HB4.out HB6.out)⟩
      | exact ⟨_, _, rfl, (HG.out.fin HB3.out (Nat.le_succ _) HLT.out (below_onto HB4.out HB6.out)).drew⟩
set_option maxRecDepth 100000 in
theorem specLine_strong (d : Value) (xs : List Int) (L : List (List Int)) (s : ByteArray) (hs : s.size ≤ 1048600) (hdk : deskB xs L = true) (hrd : rdDB s.data.toList = false) (h0 : s.data.toList ≠ allW) (h1 : s.data.toList ≠ companyW) (h2 : s.data.toList ≠ weakW) (h3 : s.data.toList = strongW) (w : World) (h : DeskR w d xs L) :
    Calls Tryz.prog 21 #[d, .string s] w (LineD xs L (strongA xs) w) := by
  have HDK := Lib.hid hdk; have HRD := Lib.hid hrd
  have hf := (deskB_iff.1 hdk).1
  have HF := Lib.hid hf
  have hl := famL_len hf
  obtain ⟨ta, hta⟩ : ∃ ta, bs (strongA xs) = ta := ⟨_, rfl⟩
  unfold LineD
  rw [hta]
  have kh0 : (s.toList == [97, 108, 108]) = false := by rw [eqW]; exact decide_eq_false h0
  have kh1 : (s.toList == [99, 111, 109, 112, 97, 110, 121]) = false := by rw [eqW]; exact decide_eq_false h1
  have kh2 : (s.toList == [119, 101, 97, 107]) = false := by rw [eqW]; exact decide_eq_false h2
  have kh3 : (s.toList == [115, 116, 114, 111, 110, 103]) = true := by rw [eqW]; exact decide_eq_true h3
  obtain ⟨ok, hok⟩ : ∃ ok, strongB xs.length (wdF xs) = ok := ⟨_, rfl⟩
  have HOK := Lib.hid hok
  have HE := Lib.hid (show bs (ynW ok) = ta from by rw [← hta, ← hok]; rfl)
  clear hok
  clear hdk hrd hta
  have hdd := h
  obtain ⟨a, c, b, c2, rfl, _⟩ := h.parts
  have q1 := alloc_below w (.cells #[.slice a xs.length c, .slice b L.length c2] 31)
  have q2 := alloc_below (w.alloc (.cells #[.slice a xs.length c, .slice b L.length c2] 31)) (.cells #[.slice none 0 0, .slice none 0 0] 31)
  have HV := Lib.hid ((VarD.new hdd).kept q2)
  have hbr := Blk2.new (w.alloc (.cells #[.slice a xs.length c, .slice b L.length c2] 31)) 31 (.slice none 0 0) (.slice none 0 0)
  rw [alloc_size] at hbr
  have HBR := Lib.hid hbr
  have HB := Lib.hid (below_onto q1 q2)
  obtain ⟨w2, hw2⟩ : ∃ w2, (w.alloc (.cells #[.slice a xs.length c, .slice b L.length c2] 31)).alloc (.cells #[.slice none 0 0, .slice none 0 0] 31) = w2 := ⟨_, rfl⟩
  rw [hw2] at HV HBR HB
  have hd0 := HV.out.blk.cell.1; have hd1 := HV.out.blk.cell.2
  clear h hdd q1 q2 hbr
  go_enter Tryz.func21, Tryz.ntmps21
  go_wp2_with fail
  clear hw2
  refine (specDeskOk_any _ xs L _ HV.out.d).mono ?_
  rintro e w3 ⟨rfl, hb⟩
  rw [HDK.out]
  replace HV := Lib.hid (HV.out.kept hb); replace HBR := Lib.hid (HBR.out.kept hb HBR.out.lt); replace HB := Lib.hid (below_onto HB.out hb)
  clear hb hd0 hd1
  have hd0 := HV.out.blk.cell.1; have hd1 := HV.out.blk.cell.2
  have HB3 := HB
  have HLT := Lib.hid (show w.heap.size + 1 < w3.heap.size from HBR.out.lt)
  go_wp2_with fail
  refine (l12Copy_any _ xs L HDK.out _ HV.out.d).mono ?_
  rintro e w4 ⟨v1, v2, rfl, hgo⟩
  have hg := hgo.desk
  obtain ⟨p1, e1, rfl⟩ := hg.one
  obtain ⟨p2, e2, rfl⟩ := hg.two
  have HG := Lib.hid hg
  have hal := alloc_below w4 (.cells #[.slice p1 xs.length e1, .slice p2 L.length e2] 31)
  have HO := Lib.hid (Blk2.new w4 31 (.slice p1 xs.length e1) (.slice p2 L.length e2))
  have HB4 := Lib.hid hal
  have hb := below_onto hg.below hal
  have HNO := Lib.hid (show w.heap.size + 1 < w4.heap.size from Nat.lt_of_lt_of_le HLT.out hg.below.size)
  replace HV := Lib.hid (HV.out.kept hb); replace HBR := Lib.hid (HBR.out.kept hb HBR.out.lt); replace HB := Lib.hid (below_onto HB.out hb)
  obtain ⟨w5, hw5⟩ : ∃ w5, w4.alloc (.cells #[.slice p1 xs.length e1, .slice p2 L.length e2] 31) = w5 := ⟨_, rfl⟩
  obtain ⟨O, hO⟩ : ∃ O, w4.heap.size = O := ⟨_, rfl⟩
  rw [hw5] at HV HBR HB HO HB4
  rw [hO] at HO HNO
  clear hgo hg hal hb hd0 hd1
  go_wp2_with fail
  clear hw5 hO
  refine (specReadDeed_any s hs _).mono ?_
  rintro e w6 ⟨rfl, hb⟩
  rw [HRD.out]
  obtain ⟨rk, hrk⟩ : ∃ rk, rdK s.data.toList = rk := ⟨_, rfl⟩
  obtain ⟨ry, hry⟩ : ∃ ry, rdY s.data.toList = ry := ⟨_, rfl⟩
  rw [hrk, hry]
  have hal := alloc_below w6 (.cells #[.int .i64 rk, .int .i64 ry] 39)
  have HE7 := Lib.hid (Blk2.new w6 39 (.int .i64 rk) (.int .i64 ry))
  replace hb := below_onto hb hal
  replace HV := Lib.hid (HV.out.kept hb); replace HBR := Lib.hid (HBR.out.kept hb HBR.out.lt); replace HB := Lib.hid (below_onto HB.out hb)
  replace HO := Lib.hid (HO.out.kept hb HO.out.lt); replace HB4 := Lib.hid (below_onto HB4.out hb)
  obtain ⟨w7, hw7⟩ : ∃ w7, w6.alloc (.cells #[.int .i64 rk, .int .i64 ry] 39) = w7 := ⟨_, rfl⟩
  obtain ⟨E, hE⟩ : ∃ E, w6.heap.size = E := ⟨_, rfl⟩
  rw [hw7] at HV HBR HB HO HB4 HE7
  rw [hE] at HE7
  have hd0 := HV.out.blk.cell.1; have hd1 := HV.out.blk.cell.2
  have HRK := Lib.hid hrk; have HRY := Lib.hid hry
  clear hb hal hrk hry
  go_wp2_with fail
  clear hw7 hE
  refine (specWorldFrom_any a xs.length c (fun j => xs.getD j 0) _ HV.out.d.now).mono ?_
  intro e w8 hg8
  obtain ⟨g, cap, rfl, hi, hb⟩ := wd_gives HF.out hg8
  have HI := Lib.hid hi
  replace HV := Lib.hid (HV.out.kept hb); replace HBR := Lib.hid (HBR.out.kept hb HBR.out.lt); replace HB := Lib.hid (below_onto HB.out hb)
  replace HO := Lib.hid (HO.out.kept hb HO.out.lt); replace HB4 := Lib.hid (below_onto HB4.out hb)
  clear hg8 hi hb hd0 hd1
  have HR := Lib.hid (show ∀ W', Below w8.heap.size w8 W' → Blk2 W' (w.heap.size + 1) 31 (.slice none 0 0) (.slice none 0 0) from fun W' hW => HBR.out.kept hW HBR.out.lt)
  have HKS := Lib.hid (show ∀ W', Below w8.heap.size w8 W' → (W'.cell? ⟨O, 0, none⟩ = some (.slice p1 xs.length e1) ∧ W'.cell? ⟨O, 1, none⟩ = some (.slice p2 L.length e2)) from fun W' hW => (HO.out.kept hW HO.out.lt).cell)
  have HKW := Lib.hid (show ∀ W' W'' : World, Below w8.heap.size w8 W' → W''.heap[O]? = W'.heap[O]? → (W''.cell? ⟨O, 0, none⟩ = some (.slice p1 xs.length e1) ∧ W''.cell? ⟨O, 1, none⟩ = some (.slice p2 L.length e2)) from fun W' W'' hW hW' => Blk2.cell (show Blk2 W'' O 31 _ _ from hW'.trans (HO.out.kept hW HO.out.lt)))
  have hn1 : ¬ O = w.heap.size + 1 := by have := HNO.out; omega
  have HN1 := Lib.hid hn1
  have HB6 := Lib.hid (Below.refl w8.heap.size w8)
  have hr0 := (HR.out _ HB6.out).cell.1; have hr1 := (HR.out _ HB6.out).cell.2; have hr2 := (HR.out _ HB6.out).frozen 0; have hr3 := (HR.out _ HB6.out).frozen 1
  go_upto_region 20 with fail
  go_region_held3 (fun W => W.cell? ⟨O, 0, none⟩ = some (.slice p1 xs.length e1) ∧ W.cell? ⟨O, 1, none⟩ = some (.slice p2 L.length e2)) (first | exact HKS.out _ HB6.out | exact HKS.out _ HB6.out.drew | exact HKS.out _ (below_drewN HB6.out _) | exact HKW.out _ _ HB6.out ((set_blk HN1.out).trans (set_blk HN1.out)) | go_keep)
    (first | (go_at_call 73; refine (specStrongOk_any _ _ _ _ _ (by first | with_reducible exact HI.out.below HB6.out (Nat.le_refl _) | with_reducible exact HI.out.below HB6.out.drew (Nat.le_refl _) | with_reducible exact HI.out.below (below_drewN HB6.out _) (Nat.le_refl _))).mono ?_; rintro e w9 ⟨rfl, hd⟩; have hb := hd.below; clear hd; rw [HOK.out]; have HZ := Lib.hid (below_onto (show Below w8.heap.size w8 _ from (by first | with_reducible exact HB6.out | with_reducible exact HB6.out.drew | with_reducible exact below_drewN HB6.out _)) hb); clear HB6; have HB6 := HZ; clear HZ; clear hb; clear hr0 hr1 hr2 hr3; have hr0 := (HR.out _ HB6.out).cell.1; have hr1 := (HR.out _ HB6.out).cell.2; have hr2 := (HR.out _ HB6.out).frozen 0; have hr3 := (HR.out _ HB6.out).frozen 1) | (go_at_call 70; refine (l12Yes_any ok _).mono ?_; rintro e w10 ⟨rfl, rfl⟩; rw [HE.out]))
  all_goals
    go_wp2_with fail
    refine bodyPost_ret (results_desk rfl _ _ (w.heap.size + 1) (((HR.out _ HB6.out).set0 _).set1 _) rfl rfl (by kernel_rfl)) rfl ?_
    first
      | exact ⟨_, _, rfl, HG.out.fin HB3.out (Nat.le_succ _) HLT.out (below_onto HB4.out HB6.out)⟩
      | exact ⟨_, _, rfl, (HG.out.fin HB3.out (Nat.le_succ _) HLT.out (below_onto HB4.out HB6.out)).drew⟩
set_option maxRecDepth 100000 in
theorem specLine_summed (d : Value) (xs : List Int) (L : List (List Int)) (s : ByteArray) (hs : s.size ≤ 1048600) (hdk : deskB xs L = true) (hrd : rdDB s.data.toList = false) (h0 : s.data.toList ≠ allW) (h1 : s.data.toList ≠ companyW) (h2 : s.data.toList ≠ weakW) (h3 : s.data.toList ≠ strongW) (h4 : s.data.toList = summedW) (w : World) (h : DeskR w d xs L) :
    Calls Tryz.prog 21 #[d, .string s] w (LineD xs L (summedA xs) w) := by
  have HDK := Lib.hid hdk; have HRD := Lib.hid hrd
  have hf := (deskB_iff.1 hdk).1
  have HF := Lib.hid hf
  have hl := famL_len hf
  obtain ⟨ta, hta⟩ : ∃ ta, bs (summedA xs) = ta := ⟨_, rfl⟩
  unfold LineD
  rw [hta]
  have kh0 : (s.toList == [97, 108, 108]) = false := by rw [eqW]; exact decide_eq_false h0
  have kh1 : (s.toList == [99, 111, 109, 112, 97, 110, 121]) = false := by rw [eqW]; exact decide_eq_false h1
  have kh2 : (s.toList == [119, 101, 97, 107]) = false := by rw [eqW]; exact decide_eq_false h2
  have kh3 : (s.toList == [115, 116, 114, 111, 110, 103]) = false := by rw [eqW]; exact decide_eq_false h3
  have kh4 : (s.toList == [115, 117, 109, 109, 101, 100]) = true := by rw [eqW]; exact decide_eq_true h4
  obtain ⟨ok, hok⟩ : ∃ ok, summedB xs.length (wdF xs) = ok := ⟨_, rfl⟩
  have HOK := Lib.hid hok
  have HE := Lib.hid (show bs (ynW ok) = ta from by rw [← hta, ← hok]; rfl)
  clear hok
  clear hdk hrd hta
  have hdd := h
  obtain ⟨a, c, b, c2, rfl, _⟩ := h.parts
  have q1 := alloc_below w (.cells #[.slice a xs.length c, .slice b L.length c2] 31)
  have q2 := alloc_below (w.alloc (.cells #[.slice a xs.length c, .slice b L.length c2] 31)) (.cells #[.slice none 0 0, .slice none 0 0] 31)
  have HV := Lib.hid ((VarD.new hdd).kept q2)
  have hbr := Blk2.new (w.alloc (.cells #[.slice a xs.length c, .slice b L.length c2] 31)) 31 (.slice none 0 0) (.slice none 0 0)
  rw [alloc_size] at hbr
  have HBR := Lib.hid hbr
  have HB := Lib.hid (below_onto q1 q2)
  obtain ⟨w2, hw2⟩ : ∃ w2, (w.alloc (.cells #[.slice a xs.length c, .slice b L.length c2] 31)).alloc (.cells #[.slice none 0 0, .slice none 0 0] 31) = w2 := ⟨_, rfl⟩
  rw [hw2] at HV HBR HB
  have hd0 := HV.out.blk.cell.1; have hd1 := HV.out.blk.cell.2
  clear h hdd q1 q2 hbr
  go_enter Tryz.func21, Tryz.ntmps21
  go_wp2_with fail
  clear hw2
  refine (specDeskOk_any _ xs L _ HV.out.d).mono ?_
  rintro e w3 ⟨rfl, hb⟩
  rw [HDK.out]
  replace HV := Lib.hid (HV.out.kept hb); replace HBR := Lib.hid (HBR.out.kept hb HBR.out.lt); replace HB := Lib.hid (below_onto HB.out hb)
  clear hb hd0 hd1
  have hd0 := HV.out.blk.cell.1; have hd1 := HV.out.blk.cell.2
  have HB3 := HB
  have HLT := Lib.hid (show w.heap.size + 1 < w3.heap.size from HBR.out.lt)
  go_wp2_with fail
  refine (l12Copy_any _ xs L HDK.out _ HV.out.d).mono ?_
  rintro e w4 ⟨v1, v2, rfl, hgo⟩
  have hg := hgo.desk
  obtain ⟨p1, e1, rfl⟩ := hg.one
  obtain ⟨p2, e2, rfl⟩ := hg.two
  have HG := Lib.hid hg
  have hal := alloc_below w4 (.cells #[.slice p1 xs.length e1, .slice p2 L.length e2] 31)
  have HO := Lib.hid (Blk2.new w4 31 (.slice p1 xs.length e1) (.slice p2 L.length e2))
  have HB4 := Lib.hid hal
  have hb := below_onto hg.below hal
  have HNO := Lib.hid (show w.heap.size + 1 < w4.heap.size from Nat.lt_of_lt_of_le HLT.out hg.below.size)
  replace HV := Lib.hid (HV.out.kept hb); replace HBR := Lib.hid (HBR.out.kept hb HBR.out.lt); replace HB := Lib.hid (below_onto HB.out hb)
  obtain ⟨w5, hw5⟩ : ∃ w5, w4.alloc (.cells #[.slice p1 xs.length e1, .slice p2 L.length e2] 31) = w5 := ⟨_, rfl⟩
  obtain ⟨O, hO⟩ : ∃ O, w4.heap.size = O := ⟨_, rfl⟩
  rw [hw5] at HV HBR HB HO HB4
  rw [hO] at HO HNO
  clear hgo hg hal hb hd0 hd1
  go_wp2_with fail
  clear hw5 hO
  refine (specReadDeed_any s hs _).mono ?_
  rintro e w6 ⟨rfl, hb⟩
  rw [HRD.out]
  obtain ⟨rk, hrk⟩ : ∃ rk, rdK s.data.toList = rk := ⟨_, rfl⟩
  obtain ⟨ry, hry⟩ : ∃ ry, rdY s.data.toList = ry := ⟨_, rfl⟩
  rw [hrk, hry]
  have hal := alloc_below w6 (.cells #[.int .i64 rk, .int .i64 ry] 39)
  have HE7 := Lib.hid (Blk2.new w6 39 (.int .i64 rk) (.int .i64 ry))
  replace hb := below_onto hb hal
  replace HV := Lib.hid (HV.out.kept hb); replace HBR := Lib.hid (HBR.out.kept hb HBR.out.lt); replace HB := Lib.hid (below_onto HB.out hb)
  replace HO := Lib.hid (HO.out.kept hb HO.out.lt); replace HB4 := Lib.hid (below_onto HB4.out hb)
  obtain ⟨w7, hw7⟩ : ∃ w7, w6.alloc (.cells #[.int .i64 rk, .int .i64 ry] 39) = w7 := ⟨_, rfl⟩
  obtain ⟨E, hE⟩ : ∃ E, w6.heap.size = E := ⟨_, rfl⟩
  rw [hw7] at HV HBR HB HO HB4 HE7
  rw [hE] at HE7
  have hd0 := HV.out.blk.cell.1; have hd1 := HV.out.blk.cell.2
  have HRK := Lib.hid hrk; have HRY := Lib.hid hry
  clear hb hal hrk hry
  go_wp2_with fail
  clear hw7 hE
  refine (specWorldFrom_any a xs.length c (fun j => xs.getD j 0) _ HV.out.d.now).mono ?_
  intro e w8 hg8
  obtain ⟨g, cap, rfl, hi, hb⟩ := wd_gives HF.out hg8
  have HI := Lib.hid hi
  replace HV := Lib.hid (HV.out.kept hb); replace HBR := Lib.hid (HBR.out.kept hb HBR.out.lt); replace HB := Lib.hid (below_onto HB.out hb)
  replace HO := Lib.hid (HO.out.kept hb HO.out.lt); replace HB4 := Lib.hid (below_onto HB4.out hb)
  clear hg8 hi hb hd0 hd1
  have HR := Lib.hid (show ∀ W', Below w8.heap.size w8 W' → Blk2 W' (w.heap.size + 1) 31 (.slice none 0 0) (.slice none 0 0) from fun W' hW => HBR.out.kept hW HBR.out.lt)
  have HKS := Lib.hid (show ∀ W', Below w8.heap.size w8 W' → (W'.cell? ⟨O, 0, none⟩ = some (.slice p1 xs.length e1) ∧ W'.cell? ⟨O, 1, none⟩ = some (.slice p2 L.length e2)) from fun W' hW => (HO.out.kept hW HO.out.lt).cell)
  have HKW := Lib.hid (show ∀ W' W'' : World, Below w8.heap.size w8 W' → W''.heap[O]? = W'.heap[O]? → (W''.cell? ⟨O, 0, none⟩ = some (.slice p1 xs.length e1) ∧ W''.cell? ⟨O, 1, none⟩ = some (.slice p2 L.length e2)) from fun W' W'' hW hW' => Blk2.cell (show Blk2 W'' O 31 _ _ from hW'.trans (HO.out.kept hW HO.out.lt)))
  have hn1 : ¬ O = w.heap.size + 1 := by have := HNO.out; omega
  have HN1 := Lib.hid hn1
  have HB6 := Lib.hid (Below.refl w8.heap.size w8)
  have hr0 := (HR.out _ HB6.out).cell.1; have hr1 := (HR.out _ HB6.out).cell.2; have hr2 := (HR.out _ HB6.out).frozen 0; have hr3 := (HR.out _ HB6.out).frozen 1
  go_upto_region 22 with fail
  go_region_held3 (fun W => W.cell? ⟨O, 0, none⟩ = some (.slice p1 xs.length e1) ∧ W.cell? ⟨O, 1, none⟩ = some (.slice p2 L.length e2)) (first | exact HKS.out _ HB6.out | exact HKS.out _ HB6.out.drew | exact HKS.out _ (below_drewN HB6.out _) | exact HKW.out _ _ HB6.out ((set_blk HN1.out).trans (set_blk HN1.out)) | go_keep)
    (first | (go_at_call 74; refine (specSummedOk_any _ _ _ _ _ (by first | with_reducible exact HI.out.below HB6.out (Nat.le_refl _) | with_reducible exact HI.out.below HB6.out.drew (Nat.le_refl _) | with_reducible exact HI.out.below (below_drewN HB6.out _) (Nat.le_refl _))).mono ?_; rintro e w9 ⟨rfl, hd⟩; have hb := hd.below; clear hd; rw [HOK.out]; have HZ := Lib.hid (below_onto (show Below w8.heap.size w8 _ from (by first | with_reducible exact HB6.out | with_reducible exact HB6.out.drew | with_reducible exact below_drewN HB6.out _)) hb); clear HB6; have HB6 := HZ; clear HZ; clear hb; clear hr0 hr1 hr2 hr3; have hr0 := (HR.out _ HB6.out).cell.1; have hr1 := (HR.out _ HB6.out).cell.2; have hr2 := (HR.out _ HB6.out).frozen 0; have hr3 := (HR.out _ HB6.out).frozen 1) | (go_at_call 70; refine (l12Yes_any ok _).mono ?_; rintro e w10 ⟨rfl, rfl⟩; rw [HE.out]))
  all_goals
    go_wp2_with fail
    refine bodyPost_ret (results_desk rfl _ _ (w.heap.size + 1) (((HR.out _ HB6.out).set0 _).set1 _) rfl rfl (by kernel_rfl)) rfl ?_
    first
      | exact ⟨_, _, rfl, HG.out.fin HB3.out (Nat.le_succ _) HLT.out (below_onto HB4.out HB6.out)⟩
      | exact ⟨_, _, rfl, (HG.out.fin HB3.out (Nat.le_succ _) HLT.out (below_onto HB4.out HB6.out)).drew⟩
set_option maxRecDepth 100000 in
theorem specLine_classical (d : Value) (xs : List Int) (L : List (List Int)) (s : ByteArray) (hs : s.size ≤ 1048600) (hdk : deskB xs L = true) (hrd : rdDB s.data.toList = false) (h0 : s.data.toList ≠ allW) (h1 : s.data.toList ≠ companyW) (h2 : s.data.toList ≠ weakW) (h3 : s.data.toList ≠ strongW) (h4 : s.data.toList ≠ summedW) (h5 : s.data.toList = classicalW) (w : World) (h : DeskR w d xs L) :
    Calls Tryz.prog 21 #[d, .string s] w (LineD xs L (classicalA xs) w) := by
  have HDK := Lib.hid hdk; have HRD := Lib.hid hrd
  have hf := (deskB_iff.1 hdk).1
  have HF := Lib.hid hf
  have hl := famL_len hf
  obtain ⟨ta, hta⟩ : ∃ ta, bs (classicalA xs) = ta := ⟨_, rfl⟩
  unfold LineD
  rw [hta]
  have kh0 : (s.toList == [97, 108, 108]) = false := by rw [eqW]; exact decide_eq_false h0
  have kh1 : (s.toList == [99, 111, 109, 112, 97, 110, 121]) = false := by rw [eqW]; exact decide_eq_false h1
  have kh2 : (s.toList == [119, 101, 97, 107]) = false := by rw [eqW]; exact decide_eq_false h2
  have kh3 : (s.toList == [115, 116, 114, 111, 110, 103]) = false := by rw [eqW]; exact decide_eq_false h3
  have kh4 : (s.toList == [115, 117, 109, 109, 101, 100]) = false := by rw [eqW]; exact decide_eq_false h4
  have kh5 : (s.toList == [99, 108, 97, 115, 115, 105, 99, 97, 108]) = true := by rw [eqW]; exact decide_eq_true h5
  obtain ⟨ok, hok⟩ : ∃ ok, classB xs.length (wdF xs) = ok := ⟨_, rfl⟩
  have HOK := Lib.hid hok
  have HE := Lib.hid (show bs (ynW ok) = ta from by rw [← hta, ← hok]; rfl)
  clear hok
  clear hdk hrd hta
  have hdd := h
  obtain ⟨a, c, b, c2, rfl, _⟩ := h.parts
  have q1 := alloc_below w (.cells #[.slice a xs.length c, .slice b L.length c2] 31)
  have q2 := alloc_below (w.alloc (.cells #[.slice a xs.length c, .slice b L.length c2] 31)) (.cells #[.slice none 0 0, .slice none 0 0] 31)
  have HV := Lib.hid ((VarD.new hdd).kept q2)
  have hbr := Blk2.new (w.alloc (.cells #[.slice a xs.length c, .slice b L.length c2] 31)) 31 (.slice none 0 0) (.slice none 0 0)
  rw [alloc_size] at hbr
  have HBR := Lib.hid hbr
  have HB := Lib.hid (below_onto q1 q2)
  obtain ⟨w2, hw2⟩ : ∃ w2, (w.alloc (.cells #[.slice a xs.length c, .slice b L.length c2] 31)).alloc (.cells #[.slice none 0 0, .slice none 0 0] 31) = w2 := ⟨_, rfl⟩
  rw [hw2] at HV HBR HB
  have hd0 := HV.out.blk.cell.1; have hd1 := HV.out.blk.cell.2
  clear h hdd q1 q2 hbr
  go_enter Tryz.func21, Tryz.ntmps21
  go_wp2_with fail
  clear hw2
  refine (specDeskOk_any _ xs L _ HV.out.d).mono ?_
  rintro e w3 ⟨rfl, hb⟩
  rw [HDK.out]
  replace HV := Lib.hid (HV.out.kept hb); replace HBR := Lib.hid (HBR.out.kept hb HBR.out.lt); replace HB := Lib.hid (below_onto HB.out hb)
  clear hb hd0 hd1
  have hd0 := HV.out.blk.cell.1; have hd1 := HV.out.blk.cell.2
  have HB3 := HB
  have HLT := Lib.hid (show w.heap.size + 1 < w3.heap.size from HBR.out.lt)
  go_wp2_with fail
  refine (l12Copy_any _ xs L HDK.out _ HV.out.d).mono ?_
  rintro e w4 ⟨v1, v2, rfl, hgo⟩
  have hg := hgo.desk
  obtain ⟨p1, e1, rfl⟩ := hg.one
  obtain ⟨p2, e2, rfl⟩ := hg.two
  have HG := Lib.hid hg
  have hal := alloc_below w4 (.cells #[.slice p1 xs.length e1, .slice p2 L.length e2] 31)
  have HO := Lib.hid (Blk2.new w4 31 (.slice p1 xs.length e1) (.slice p2 L.length e2))
  have HB4 := Lib.hid hal
  have hb := below_onto hg.below hal
  have HNO := Lib.hid (show w.heap.size + 1 < w4.heap.size from Nat.lt_of_lt_of_le HLT.out hg.below.size)
  replace HV := Lib.hid (HV.out.kept hb); replace HBR := Lib.hid (HBR.out.kept hb HBR.out.lt); replace HB := Lib.hid (below_onto HB.out hb)
  obtain ⟨w5, hw5⟩ : ∃ w5, w4.alloc (.cells #[.slice p1 xs.length e1, .slice p2 L.length e2] 31) = w5 := ⟨_, rfl⟩
  obtain ⟨O, hO⟩ : ∃ O, w4.heap.size = O := ⟨_, rfl⟩
  rw [hw5] at HV HBR HB HO HB4
  rw [hO] at HO HNO
  clear hgo hg hal hb hd0 hd1
  go_wp2_with fail
  clear hw5 hO
  refine (specReadDeed_any s hs _).mono ?_
  rintro e w6 ⟨rfl, hb⟩
  rw [HRD.out]
  obtain ⟨rk, hrk⟩ : ∃ rk, rdK s.data.toList = rk := ⟨_, rfl⟩
  obtain ⟨ry, hry⟩ : ∃ ry, rdY s.data.toList = ry := ⟨_, rfl⟩
  rw [hrk, hry]
  have hal := alloc_below w6 (.cells #[.int .i64 rk, .int .i64 ry] 39)
  have HE7 := Lib.hid (Blk2.new w6 39 (.int .i64 rk) (.int .i64 ry))
  replace hb := below_onto hb hal
  replace HV := Lib.hid (HV.out.kept hb); replace HBR := Lib.hid (HBR.out.kept hb HBR.out.lt); replace HB := Lib.hid (below_onto HB.out hb)
  replace HO := Lib.hid (HO.out.kept hb HO.out.lt); replace HB4 := Lib.hid (below_onto HB4.out hb)
  obtain ⟨w7, hw7⟩ : ∃ w7, w6.alloc (.cells #[.int .i64 rk, .int .i64 ry] 39) = w7 := ⟨_, rfl⟩
  obtain ⟨E, hE⟩ : ∃ E, w6.heap.size = E := ⟨_, rfl⟩
  rw [hw7] at HV HBR HB HO HB4 HE7
  rw [hE] at HE7
  have hd0 := HV.out.blk.cell.1; have hd1 := HV.out.blk.cell.2
  have HRK := Lib.hid hrk; have HRY := Lib.hid hry
  clear hb hal hrk hry
  go_wp2_with fail
  clear hw7 hE
  refine (specWorldFrom_any a xs.length c (fun j => xs.getD j 0) _ HV.out.d.now).mono ?_
  intro e w8 hg8
  obtain ⟨g, cap, rfl, hi, hb⟩ := wd_gives HF.out hg8
  have HI := Lib.hid hi
  replace HV := Lib.hid (HV.out.kept hb); replace HBR := Lib.hid (HBR.out.kept hb HBR.out.lt); replace HB := Lib.hid (below_onto HB.out hb)
  replace HO := Lib.hid (HO.out.kept hb HO.out.lt); replace HB4 := Lib.hid (below_onto HB4.out hb)
  clear hg8 hi hb hd0 hd1
  have HR := Lib.hid (show ∀ W', Below w8.heap.size w8 W' → Blk2 W' (w.heap.size + 1) 31 (.slice none 0 0) (.slice none 0 0) from fun W' hW => HBR.out.kept hW HBR.out.lt)
  have HKS := Lib.hid (show ∀ W', Below w8.heap.size w8 W' → (W'.cell? ⟨O, 0, none⟩ = some (.slice p1 xs.length e1) ∧ W'.cell? ⟨O, 1, none⟩ = some (.slice p2 L.length e2)) from fun W' hW => (HO.out.kept hW HO.out.lt).cell)
  have HKW := Lib.hid (show ∀ W' W'' : World, Below w8.heap.size w8 W' → W''.heap[O]? = W'.heap[O]? → (W''.cell? ⟨O, 0, none⟩ = some (.slice p1 xs.length e1) ∧ W''.cell? ⟨O, 1, none⟩ = some (.slice p2 L.length e2)) from fun W' W'' hW hW' => Blk2.cell (show Blk2 W'' O 31 _ _ from hW'.trans (HO.out.kept hW HO.out.lt)))
  have hn1 : ¬ O = w.heap.size + 1 := by have := HNO.out; omega
  have HN1 := Lib.hid hn1
  have HB6 := Lib.hid (Below.refl w8.heap.size w8)
  have hr0 := (HR.out _ HB6.out).cell.1; have hr1 := (HR.out _ HB6.out).cell.2; have hr2 := (HR.out _ HB6.out).frozen 0; have hr3 := (HR.out _ HB6.out).frozen 1
  go_upto_region 24 with fail
  go_region_held3 (fun W => W.cell? ⟨O, 0, none⟩ = some (.slice p1 xs.length e1) ∧ W.cell? ⟨O, 1, none⟩ = some (.slice p2 L.length e2)) (first | exact HKS.out _ HB6.out | exact HKS.out _ HB6.out.drew | exact HKS.out _ (below_drewN HB6.out _) | exact HKW.out _ _ HB6.out ((set_blk HN1.out).trans (set_blk HN1.out)) | go_keep)
    (first | (go_at_call 75; refine (specClassicalOk_any _ _ _ _ _ (by first | with_reducible exact HI.out.below HB6.out (Nat.le_refl _) | with_reducible exact HI.out.below HB6.out.drew (Nat.le_refl _) | with_reducible exact HI.out.below (below_drewN HB6.out _) (Nat.le_refl _))).mono ?_; rintro e w9 ⟨rfl, hd⟩; have hb := hd.below; clear hd; rw [HOK.out]; have HZ := Lib.hid (below_onto (show Below w8.heap.size w8 _ from (by first | with_reducible exact HB6.out | with_reducible exact HB6.out.drew | with_reducible exact below_drewN HB6.out _)) hb); clear HB6; have HB6 := HZ; clear HZ; clear hb; clear hr0 hr1 hr2 hr3; have hr0 := (HR.out _ HB6.out).cell.1; have hr1 := (HR.out _ HB6.out).cell.2; have hr2 := (HR.out _ HB6.out).frozen 0; have hr3 := (HR.out _ HB6.out).frozen 1) | (go_at_call 70; refine (l12Yes_any ok _).mono ?_; rintro e w10 ⟨rfl, rfl⟩; rw [HE.out]))
  all_goals
    go_wp2_with fail
    refine bodyPost_ret (results_desk rfl _ _ (w.heap.size + 1) (((HR.out _ HB6.out).set0 _).set1 _) rfl rfl (by kernel_rfl)) rfl ?_
    first
      | exact ⟨_, _, rfl, HG.out.fin HB3.out (Nat.le_succ _) HLT.out (below_onto HB4.out HB6.out)⟩
      | exact ⟨_, _, rfl, (HG.out.fin HB3.out (Nat.le_succ _) HLT.out (below_onto HB4.out HB6.out)).drew⟩
set_option maxRecDepth 100000 in
theorem specLine_atoms (d : Value) (xs : List Int) (L : List (List Int)) (s : ByteArray) (hs : s.size ≤ 1048600) (hdk : deskB xs L = true) (hrd : rdDB s.data.toList = false) (h0 : s.data.toList ≠ allW) (h1 : s.data.toList ≠ companyW) (h2 : s.data.toList ≠ weakW) (h3 : s.data.toList ≠ strongW) (h4 : s.data.toList ≠ summedW) (h5 : s.data.toList ≠ classicalW) (h6 : s.data.toList = atomsW) (w : World) (h : DeskR w d xs L) :
    Calls Tryz.prog 21 #[d, .string s] w (LineD xs L (atomsA xs) w) := by
  have HDK := Lib.hid hdk; have HRD := Lib.hid hrd
  have hf := (deskB_iff.1 hdk).1
  have HF := Lib.hid hf
  have hl := famL_len hf
  obtain ⟨ta, hta⟩ : ∃ ta, bs (atomsA xs) = ta := ⟨_, rfl⟩
  unfold LineD
  rw [hta]
  have kh0 : (s.toList == [97, 108, 108]) = false := by rw [eqW]; exact decide_eq_false h0
  have kh1 : (s.toList == [99, 111, 109, 112, 97, 110, 121]) = false := by rw [eqW]; exact decide_eq_false h1
  have kh2 : (s.toList == [119, 101, 97, 107]) = false := by rw [eqW]; exact decide_eq_false h2
  have kh3 : (s.toList == [115, 116, 114, 111, 110, 103]) = false := by rw [eqW]; exact decide_eq_false h3
  have kh4 : (s.toList == [115, 117, 109, 109, 101, 100]) = false := by rw [eqW]; exact decide_eq_false h4
  have kh5 : (s.toList == [99, 108, 97, 115, 115, 105, 99, 97, 108]) = false := by rw [eqW]; exact decide_eq_false h5
  have kh6 : (s.toList == [97, 116, 111, 109, 115]) = true := by rw [eqW]; exact decide_eq_true h6
  obtain ⟨sv, hsv⟩ : ∃ sv, atomsB xs.length (wdF xs) = sv := ⟨_, rfl⟩
  have HSE := Lib.hid (show bs (setsW xs sv) = ta from by rw [← hta, ← hsv]; rfl)
  have HSV := Lib.hid hsv; have HS0 := Lib.hid (show 0 ≤ sv by rw [← hsv]; unfold atomsB; rw [if_pos (wd_world hf)]; exact (setOf_rng _ _ (by omega)).1)
  clear hsv
  clear hdk hrd hta
  have hdd := h
  obtain ⟨a, c, b, c2, rfl, _⟩ := h.parts
  have q1 := alloc_below w (.cells #[.slice a xs.length c, .slice b L.length c2] 31)
  have q2 := alloc_below (w.alloc (.cells #[.slice a xs.length c, .slice b L.length c2] 31)) (.cells #[.slice none 0 0, .slice none 0 0] 31)
  have HV := Lib.hid ((VarD.new hdd).kept q2)
  have hbr := Blk2.new (w.alloc (.cells #[.slice a xs.length c, .slice b L.length c2] 31)) 31 (.slice none 0 0) (.slice none 0 0)
  rw [alloc_size] at hbr
  have HBR := Lib.hid hbr
  have HB := Lib.hid (below_onto q1 q2)
  obtain ⟨w2, hw2⟩ : ∃ w2, (w.alloc (.cells #[.slice a xs.length c, .slice b L.length c2] 31)).alloc (.cells #[.slice none 0 0, .slice none 0 0] 31) = w2 := ⟨_, rfl⟩
  rw [hw2] at HV HBR HB
  have hd0 := HV.out.blk.cell.1; have hd1 := HV.out.blk.cell.2
  clear h hdd q1 q2 hbr
  go_enter Tryz.func21, Tryz.ntmps21
  go_wp2_with fail
  clear hw2
  refine (specDeskOk_any _ xs L _ HV.out.d).mono ?_
  rintro e w3 ⟨rfl, hb⟩
  rw [HDK.out]
  replace HV := Lib.hid (HV.out.kept hb); replace HBR := Lib.hid (HBR.out.kept hb HBR.out.lt); replace HB := Lib.hid (below_onto HB.out hb)
  clear hb hd0 hd1
  have hd0 := HV.out.blk.cell.1; have hd1 := HV.out.blk.cell.2
  have HB3 := HB
  have HLT := Lib.hid (show w.heap.size + 1 < w3.heap.size from HBR.out.lt)
  go_wp2_with fail
  refine (l12Copy_any _ xs L HDK.out _ HV.out.d).mono ?_
  rintro e w4 ⟨v1, v2, rfl, hgo⟩
  have hg := hgo.desk
  obtain ⟨p1, e1, rfl⟩ := hg.one
  obtain ⟨p2, e2, rfl⟩ := hg.two
  have HG := Lib.hid hg
  have hal := alloc_below w4 (.cells #[.slice p1 xs.length e1, .slice p2 L.length e2] 31)
  have HO := Lib.hid (Blk2.new w4 31 (.slice p1 xs.length e1) (.slice p2 L.length e2))
  have HB4 := Lib.hid hal
  have hb := below_onto hg.below hal
  have HNO := Lib.hid (show w.heap.size + 1 < w4.heap.size from Nat.lt_of_lt_of_le HLT.out hg.below.size)
  replace HV := Lib.hid (HV.out.kept hb); replace HBR := Lib.hid (HBR.out.kept hb HBR.out.lt); replace HB := Lib.hid (below_onto HB.out hb)
  obtain ⟨w5, hw5⟩ : ∃ w5, w4.alloc (.cells #[.slice p1 xs.length e1, .slice p2 L.length e2] 31) = w5 := ⟨_, rfl⟩
  obtain ⟨O, hO⟩ : ∃ O, w4.heap.size = O := ⟨_, rfl⟩
  rw [hw5] at HV HBR HB HO HB4
  rw [hO] at HO HNO
  clear hgo hg hal hb hd0 hd1
  go_wp2_with fail
  clear hw5 hO
  refine (specReadDeed_any s hs _).mono ?_
  rintro e w6 ⟨rfl, hb⟩
  rw [HRD.out]
  obtain ⟨rk, hrk⟩ : ∃ rk, rdK s.data.toList = rk := ⟨_, rfl⟩
  obtain ⟨ry, hry⟩ : ∃ ry, rdY s.data.toList = ry := ⟨_, rfl⟩
  rw [hrk, hry]
  have hal := alloc_below w6 (.cells #[.int .i64 rk, .int .i64 ry] 39)
  have HE7 := Lib.hid (Blk2.new w6 39 (.int .i64 rk) (.int .i64 ry))
  replace hb := below_onto hb hal
  replace HV := Lib.hid (HV.out.kept hb); replace HBR := Lib.hid (HBR.out.kept hb HBR.out.lt); replace HB := Lib.hid (below_onto HB.out hb)
  replace HO := Lib.hid (HO.out.kept hb HO.out.lt); replace HB4 := Lib.hid (below_onto HB4.out hb)
  obtain ⟨w7, hw7⟩ : ∃ w7, w6.alloc (.cells #[.int .i64 rk, .int .i64 ry] 39) = w7 := ⟨_, rfl⟩
  obtain ⟨E, hE⟩ : ∃ E, w6.heap.size = E := ⟨_, rfl⟩
  rw [hw7] at HV HBR HB HO HB4 HE7
  rw [hE] at HE7
  have hd0 := HV.out.blk.cell.1; have hd1 := HV.out.blk.cell.2
  have HRK := Lib.hid hrk; have HRY := Lib.hid hry
  clear hb hal hrk hry
  go_wp2_with fail
  clear hw7 hE
  refine (specWorldFrom_any a xs.length c (fun j => xs.getD j 0) _ HV.out.d.now).mono ?_
  intro e w8 hg8
  obtain ⟨g, cap, rfl, hi, hb⟩ := wd_gives HF.out hg8
  have HI := Lib.hid hi
  replace HV := Lib.hid (HV.out.kept hb); replace HBR := Lib.hid (HBR.out.kept hb HBR.out.lt); replace HB := Lib.hid (below_onto HB.out hb)
  replace HO := Lib.hid (HO.out.kept hb HO.out.lt); replace HB4 := Lib.hid (below_onto HB4.out hb)
  clear hg8 hi hb hd0 hd1
  have HR := Lib.hid (show ∀ W', Below w8.heap.size w8 W' → Blk2 W' (w.heap.size + 1) 31 (.slice none 0 0) (.slice none 0 0) from fun W' hW => HBR.out.kept hW HBR.out.lt)
  have HKS := Lib.hid (show ∀ W', Below w8.heap.size w8 W' → (W'.cell? ⟨O, 0, none⟩ = some (.slice p1 xs.length e1) ∧ W'.cell? ⟨O, 1, none⟩ = some (.slice p2 L.length e2)) from fun W' hW => (HO.out.kept hW HO.out.lt).cell)
  have HKW := Lib.hid (show ∀ W' W'' : World, Below w8.heap.size w8 W' → W''.heap[O]? = W'.heap[O]? → (W''.cell? ⟨O, 0, none⟩ = some (.slice p1 xs.length e1) ∧ W''.cell? ⟨O, 1, none⟩ = some (.slice p2 L.length e2)) from fun W' W'' hW hW' => Blk2.cell (show Blk2 W'' O 31 _ _ from hW'.trans (HO.out.kept hW HO.out.lt)))
  have hn1 : ¬ O = w.heap.size + 1 := by have := HNO.out; omega
  have HN1 := Lib.hid hn1
  have HB6 := Lib.hid (Below.refl w8.heap.size w8)
  have hr0 := (HR.out _ HB6.out).cell.1; have hr1 := (HR.out _ HB6.out).cell.2; have hr2 := (HR.out _ HB6.out).frozen 0; have hr3 := (HR.out _ HB6.out).frozen 1
  go_upto_region 26 with fail
  go_region_held3 (fun W => W.cell? ⟨O, 0, none⟩ = some (.slice p1 xs.length e1) ∧ W.cell? ⟨O, 1, none⟩ = some (.slice p2 L.length e2)) (first | exact HKS.out _ HB6.out | exact HKS.out _ HB6.out.drew | exact HKS.out _ (below_drewN HB6.out _) | exact HKW.out _ _ HB6.out ((set_blk HN1.out).trans (set_blk HN1.out)) | go_keep)
    (first | (go_at_call 76; refine (specAtomsOf_any _ _ _ _ _ (by first | with_reducible exact HI.out.below HB6.out (Nat.le_refl _) | with_reducible exact HI.out.below HB6.out.drew (Nat.le_refl _) | with_reducible exact HI.out.below (below_drewN HB6.out _) (Nat.le_refl _))).mono ?_; rintro e w9 ⟨rfl, hd⟩; have hb := hd.below; clear hd; rw [HSV.out]; have HZ := Lib.hid (below_onto (show Below w8.heap.size w8 _ from (by first | with_reducible exact HB6.out | with_reducible exact HB6.out.drew | with_reducible exact below_drewN HB6.out _)) hb); clear HB6; have HB6 := HZ; clear HZ; clear hb; clear hr0 hr1 hr2 hr3; have hr0 := (HR.out _ HB6.out).cell.1; have hr1 := (HR.out _ HB6.out).cell.2; have hr2 := (HR.out _ HB6.out).frozen 0; have hr3 := (HR.out _ HB6.out).frozen 1) | (go_at_call 69; refine (l12Sets_any a c xs sv HS0.out HF.out _ (HV.out.d.now.below (by first | with_reducible exact HB6.out | with_reducible exact HB6.out.drew | with_reducible exact below_drewN HB6.out _) (Nat.le_refl _))).mono ?_; rintro e w10 ⟨rfl, rfl⟩; rw [HSE.out]))
  all_goals
    go_wp2_with fail
    refine bodyPost_ret (results_desk rfl _ _ (w.heap.size + 1) (((HR.out _ HB6.out).set0 _).set1 _) rfl rfl (by kernel_rfl)) rfl ?_
    first
      | exact ⟨_, _, rfl, HG.out.fin HB3.out (Nat.le_succ _) HLT.out (below_onto HB4.out HB6.out)⟩
      | exact ⟨_, _, rfl, (HG.out.fin HB3.out (Nat.le_succ _) HLT.out (below_onto HB4.out HB6.out)).drew⟩
end Go.Proofs.YthaickihoagnmaaGreatDoor
