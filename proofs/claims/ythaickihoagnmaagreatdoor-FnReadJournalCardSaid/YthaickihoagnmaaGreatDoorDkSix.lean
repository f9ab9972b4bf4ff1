import Derived.Test.YthaickihoagnmaaGreatDoorDkAC
namespace Go.Proofs.YthaickihoagnmaaGreatDoor
set_option linter.unusedVariables false
set_option linter.unusedSimpArgs false
open Go.RowKit Go.Maps

/-- a desk behind deeds, and how many were done -/
def RunEnd (xs : List Int) (L : List (List Int)) (n : Nat) (w : World) (e : Ending) (w' : World) : Prop := ∃ v1 v2, e = .returned (.tuple #[.agg #[v1, v2], .int .i64 n]) ∧ GivesD xs L w w' v1 v2

theorem below_of {w w2 wr : World} (h : Below w.heap.size w w2) (k : Below w.heap.size w wr) : Below w.heap.size w wr := k
theorem Dds.at {w : World} {a : Option Addr} {ds : List (Int × Int)} (h : Dds w a ds) {k : Nat} (hk : k < ds.length) :
    ∃ b o, a = some ⟨b, o, none⟩ ∧ I64 ds[k].1 ∧ I64 ds[k].2 ∧ ∀ W, Below w.heap.size w W → (W.cell? ⟨b, o + k * 2, none⟩ = some (.int .i64 ds[k].1) ∧ W.cell? ⟨b, o + k * 2 + 1, none⟩ = some (.int .i64 ds[k].2)) := by
  obtain ⟨b, o, e, hl, hr⟩ := h.row (by omega)
  exact ⟨b, o, e, (h.1.2 _ (List.getElem_mem hk)).1, (h.1.2 _ (List.getElem_mem hk)).2, fun W hW => (hr.kept hW hl) k hk⟩

/-- the state of a run -/
structure RunS (w : World) (B A : Nat) (xs : List Int) (L : List (List Int)) (ds : List (Int × Int)) (X Y : Value) (k m : Nat) (v1 v2 : Value) (rs : List Fr) (wr : World) : Prop where
  d : Blk2 wr w.heap.size 31 X Y
  r : Blk2 wr (w.heap.size + 1) 31 (.slice none 0 0) (.slice none 0 0)
  v : DeskV wr B wr.heap.size A v1 v2 (runD xs L (ds.take k)).1 rs
  mm : rs.map Fr.xs = (runD xs L (ds.take k)).2.1
  nn : (runD xs L (ds.take k)).2.2 = m
  lo : w.heap.size + 2 ≤ B
  bel : Below w.heap.size w wr
theorem run_next {xs : List Int} {L : List (List Int)} {ds : List (Int × Int)} {k : Nat} (hk : k < ds.length) :
    runD xs L (ds.take (k + 1)) = (dkX (runD xs L (ds.take k)).1 (runD xs L (ds.take k)).2.1 ds[k].1 ds[k].2, dkL (runD xs L (ds.take k)).1 (runD xs L (ds.take k)).2.1 ds[k].1 ds[k].2, (runD xs L (ds.take k)).2.2 + if dkB (runD xs L (ds.take k)).1 (runD xs L (ds.take k)).2.1 ds[k].1 ds[k].2 then 1 else 0) := by
  rw [List.take_succ_eq_append_getElem hk, run_snoc]
/-- a deed more: the desk is laid into its variable -/
theorem RunS.next {w wr wp w5 : World} {B A : Nat} {xs : List Int} {L : List (List Int)} {ds : List (Int × Int)} {X Y : Value} {k m m2 : Nat} {v1 v2 v3 v4 : Value} {rs : List Fr} {o : Obj} (h : RunS w B A xs L ds X Y k m v1 v2 rs wr) (hk : k < ds.length)
    (hp : Below wr.heap.size wr wp) (hg : GivesD (runD xs L (ds.take (k + 1))).1 (runD xs L (ds.take (k + 1))).2.1 wp w5 v3 v4) (hm : (runD xs L (ds.take (k + 1))).2.2 = m2) :
    ∃ rs', RunS w B A xs L ds X Y (k + 1) m2 v3 v4 rs' (((w5.alloc o).setCell ⟨A, 0, none⟩ v3).setCell ⟨A, 1, none⟩ v4) := by
  obtain ⟨rs', hdg, hrs, hb⟩ := hg
  have hb5 := below_onto hp hb
  have hb6 : Below wr.heap.size wr (w5.alloc o) := hb5.alloc hb5.size _
  have hlo := h.lo; have hBA := h.v.lo; have hAl := h.v.blk.lt
  have hAp : A < wp.heap.size := Nat.lt_of_lt_of_le hAl hp.size
  have hBp : B ≤ wp.heap.size := by omega
  have hbw : Below w.heap.size w (((w5.alloc o).setCell ⟨A, 0, none⟩ v3).setCell ⟨A, 1, none⟩ v4) := ((below_onto h.bel hb6).setCell (p := ⟨A, 0, none⟩) (show w.heap.size ≤ A by omega) _).setCell (p := ⟨A, 1, none⟩) (show w.heap.size ≤ A by omega) _
  have hsz : (((w5.alloc o).setCell ⟨A, 0, none⟩ v3).setCell ⟨A, 1, none⟩ v4).heap.size = w5.heap.size + 1 := by simp [World.setCell]
  refine ⟨rs', ?_, ?_, ⟨((h.v.blk.kept hb6 hAl).set0 v3).set1 v4, ?_, fun e => by have := (hdg.ltB _ e).1; omega, hBA, by have := hb5.size; omega, fun q hq => by have := (hdg.ltB q hq).2; omega⟩, hrs, hm, h.lo, hbw⟩
  · exact ((h.d.kept hb6 h.d.lt).other (show w.heap.size ≠ A by omega) 0 v3).other (show w.heap.size ≠ A by omega) 1 v4
  · exact ((h.r.kept hb6 h.r.lt).other (show w.heap.size + 1 ≠ A by omega) 0 v3).other (show w.heap.size + 1 ≠ A by omega) 1 v4
  · exact (((hdg.kept (alloc_below w5 o)).put (p := ⟨A, 0, none⟩) hAp).put (p := ⟨A, 1, none⟩) hAp).base hBp
/-- the desk is handed back -/
theorem RunS.done {w wr : World} {B A : Nat} {xs : List Int} {L : List (List Int)} {ds : List (Int × Int)} {X Y : Value} {k m : Nat} {v1 v2 : Value} {rs : List Fr} (h : RunS w B A xs L ds X Y k m v1 v2 rs wr) (hk : ds.length ≤ k) :
    GivesD (runD xs L ds).1 (runD xs L ds).2.1 w ((wr.setCell ⟨w.heap.size + 1, 0, none⟩ v1).setCell ⟨w.heap.size + 1, 1, none⟩ v2) v1 v2 ∧ (runD xs L ds).2.2 = m := by
  have hv := h.v; have hm := h.mm; have hn := h.nn
  rw [List.take_of_length_le hk] at hv hm hn
  have hlo := h.lo
  exact ⟨⟨rs, ((hv.g.put (p := ⟨w.heap.size + 1, 0, none⟩) (show w.heap.size + 1 < B by omega)).put (p := ⟨w.heap.size + 1, 1, none⟩) (show w.heap.size + 1 < B by omega)).base (by omega), hm,
    (h.bel.setCell (p := ⟨w.heap.size + 1, 0, none⟩) (show w.heap.size ≤ w.heap.size + 1 by omega) _).setCell (p := ⟨w.heap.size + 1, 1, none⟩) (show w.heap.size ≤ w.heap.size + 1 by omega) _⟩, hn⟩
theorem run_okD {xs : List Int} {L : List (List Int)} (h : deskB xs L = true) (ds : List (Int × Int)) : okD (runD xs L ds).1 (runD xs L ds).2.1 := okD_desk (run_desk h ds)
theorem RunS.small {w wr : World} {B A : Nat} {xs : List Int} {L : List (List Int)} {ds : List (Int × Int)} {X Y : Value} {k m : Nat} {v1 v2 : Value} {rs : List Fr} (h : RunS w B A xs L ds X Y k m v1 v2 rs wr) : m ≤ k := by
  rw [← h.nn]
  exact Nat.le_trans (run_count _ _ _) (List.length_take_le _ _)
/-- what a round knows of the desk -/
theorem RunS.desk {w wr : World} {B A : Nat} {xs : List Int} {L : List (List Int)} {ds : List (Int × Int)} {X Y : Value} {k m : Nat} {v1 v2 : Value} {rs : List Fr} (h : RunS w B A xs L ds X Y k m v1 v2 rs wr) (hd : deskB xs L = true) {cx : List Int} {cL : List (List Int)} (hx : (runD xs L (ds.take k)).1 = cx) (hL : (runD xs L (ds.take k)).2.1 = cL) :
    DeskR wr (.agg #[v1, v2]) cx cL ∧ (∃ a c, v1 = .slice a cx.length c) ∧ ∃ a c, v2 = .slice a cL.length c := by
  subst hx; subst hL
  refine ⟨h.v.read h.mm (run_okD hd _), h.v.g.now.slice, ?_⟩
  have := h.v.g.past.seq.slice
  rw [← h.mm]
  rw [List.length_map] at this ⊢
  exact this
/-- the start of a run -/
theorem RunS.start {w w2 w5 : World} {xs : List Int} {L : List (List Int)} {ds : List (Int × Int)} {X Y v1 v2 : Value} (hd : Blk2 w2 w.heap.size 31 X Y) (hr : Blk2 w2 (w.heap.size + 1) 31 (.slice none 0 0) (.slice none 0 0)) (hb : Below w.heap.size w w2) (hg : GivesD xs L w2 w5 v1 v2) :
    ∃ rs, RunS w w2.heap.size w5.heap.size xs L ds X Y 0 0 v1 v2 rs (w5.alloc (.cells #[v1, v2] 31)) := by
  obtain ⟨rs, hv, hrs⟩ := deskV_of hg
  have hb5 := hg.below
  have hb6 := hb5.alloc hb5.size (.cells #[v1, v2] 31)
  refine ⟨rs, hd.kept hb6 hd.lt, hr.kept hb6 hr.lt, ?_, ?_, ?_, hr.lt, below_onto hb hb6⟩
  · rw [List.take_zero, alloc_size]; exact hv
  · rw [List.take_zero]; exact hrs
  · rw [List.take_zero]; rfl

set_option maxRecDepth 100000 in
set_option maxHeartbeats 6400000 in
theorem DeskRun_any (d : Value) (xs : List Int) (L : List (List Int)) (a1 : Option Addr) (ds : List (Int × Int)) (cd : Nat) (w : World) (h : DeskR w d xs L) (hds : Dds w a1 ds) :
    Calls Tryz.prog 16 #[d, .slice a1 ds.length cd] w (RunEnd (drX xs L ds) (drL xs L ds) (drN xs L ds) w) := by
  have hdd := h
  obtain ⟨a, c, b, c2, rfl, _⟩ := h.parts
  have q1 := alloc_below w (.cells #[.slice a xs.length c, .slice b L.length c2] 31)
  have q2 := alloc_below (w.alloc (.cells #[.slice a xs.length c, .slice b L.length c2] 31)) (.cells #[.slice none 0 0, .slice none 0 0] 31)
  have b1 := (Blk2.new w 31 (.slice a xs.length c) (.slice b L.length c2)).kept q2 (by rw [alloc_size]; omega)
  have b2 := (Blk2.new (w.alloc (.cells #[.slice a xs.length c, .slice b L.length c2] 31)) 31 (.slice none 0 0) (.slice none 0 0))
  rw [alloc_size] at b2
  have hq := below_onto q1 q2
  have hdr := hdd.kept hq
  obtain ⟨w2, hw2⟩ : ∃ w2, (w.alloc (.cells #[.slice a xs.length c, .slice b L.length c2] 31)).alloc (.cells #[.slice none 0 0, .slice none 0 0] 31) = w2 := ⟨_, rfl⟩
  rw [hw2] at b1 b2 hq hdr
  have HBL := Lib.hid b1; have HBR := Lib.hid b2; have HQ := Lib.hid hq; have HDR := Lib.hid hdr; have HDS := Lib.hid hds
  have hc0 := b1.cell.1; have hc1 := b1.cell.2
  obtain ⟨n, hn⟩ : ∃ n, ds.length = n := ⟨_, rfl⟩
  have HN := Lib.hid hn
  have h63 : n ≤ 9223372036854775807 := by rw [← hn]; exact hds.1.1
  rw [hn]
  clear h hdd q1 q2 b1 b2 hq hdr hds hn
  cases hdk : deskB xs L with
  | false =>
    obtain ⟨e1, e2, e3⟩ := dr_no (ds := ds) (show drB xs L ds = false by unfold drB; rw [hdk, Bool.false_and])
    rw [e1, e2, e3]
    have HDK := Lib.hid hdk
    clear hdk e1 e2 e3
    go_enter Tryz.func16, Tryz.ntmps16
    go_wp2_with fail
    clear hw2
    refine (DeskOk_any _ xs L _ HDR.out).mono ?_
    rintro e w4 ⟨rfl, hb4⟩
    rw [HDK.out]
    have hR := HBR.out.kept hb4 HBR.out.lt
    have hx0 := hR.cell.1; have hx1 := hR.cell.2; have hx2 := hR.frozen 0; have hx3 := hR.frozen 1
    have HR := Lib.hid hR; have HB := Lib.hid (below_onto HQ.out hb4)
    clear hb4 hR hc0 hc1
    go_wp2_with fail
    refine bodyPost_ret (results_desk rfl _ _ (w.heap.size + 1) ((HR.out.set0 (.slice none 0 0)).set1 (.slice none 0 0)) rfl rfl (by kernel_rfl)) rfl ?_
    exact ⟨_, _, rfl, noDesk_gives ((HB.out.setCell (p := ⟨w.heap.size + 1, 0, none⟩) (show w.heap.size ≤ w.heap.size + 1 by omega) _).setCell (p := ⟨w.heap.size + 1, 1, none⟩) (show w.heap.size ≤ w.heap.size + 1 by omega) _)⟩
  | true =>
    have HDK := Lib.hid hdk
    by_cases h40 : n ≤ 40
    · obtain ⟨e1, e2, e3⟩ := dr_yes (show drB xs L ds = true by unfold drB; rw [hdk, HN.out, decide_eq_true h40]; rfl)
      obtain ⟨rX, hrX⟩ : ∃ rX, drX xs L ds = rX := ⟨_, rfl⟩
      obtain ⟨rL, hrL⟩ : ∃ rL, drL xs L ds = rL := ⟨_, rfl⟩
      obtain ⟨rN, hrN⟩ : ∃ rN, drN xs L ds = rN := ⟨_, rfl⟩
      rw [hrX, hrL, hrN]
      have HE1 := Lib.hid (hrX.symm.trans e1); have HE2 := Lib.hid (hrL.symm.trans e2); have HE3 := Lib.hid (hrN.symm.trans e3)
      have hd40 : decide ((40 : Int) < (n : Int)) = false := decide_eq_false (by omega)
      clear hdk e1 e2 e3 hrX hrL hrN
      go_enter Tryz.func16, Tryz.ntmps16
      go_wp2_with fail
      clear hw2
      refine (DeskOk_any _ xs L _ HDR.out).mono ?_
      rintro e w4 ⟨rfl, hb4⟩
      rw [HDK.out]
      have HB4 := Lib.hid hb4
      have hD := HBL.out.kept hb4 HBL.out.lt
      have he0 := hD.cell.1; have he1 := hD.cell.2
      clear hb4 hD hc0 hc1
      go_wp2_with fail
      refine (copied_any _ xs L HDK.out _ (HDR.out.kept HB4.out)).mono ?_
      rintro e w5 ⟨v1, v2, rfl, hg⟩
      obtain ⟨p1, f1, rfl⟩ := hg.one
      obtain ⟨p2, f2, rfl⟩ := hg.two
      obtain ⟨rs, hst⟩ := RunS.start (ds := ds) (HBL.out.kept HB4.out HBL.out.lt) (HBR.out.kept HB4.out HBR.out.lt) (below_onto HQ.out HB4.out) hg
      have HST := Lib.hid hst
      obtain ⟨B, hB⟩ : ∃ B, w4.heap.size = B := ⟨_, rfl⟩
      obtain ⟨A, hA⟩ : ∃ A, w5.heap.size = A := ⟨_, rfl⟩
      obtain ⟨w6, hw6⟩ : ∃ w6, w5.alloc (.cells #[.slice p1 xs.length f1, .slice p2 L.length f2] 31) = w6 := ⟨_, rfl⟩
      rw [hB, hA, hw6] at HST
      clear hg hst he0 he1 hB
      go_wp2_with fail
      clear hw6 hA
      go_loopw [7, 25] (fun vc i wr => ∃ (k m : Nat) (v1 v2 : Value) (rs : List Fr), k ≤ n ∧ i = .int .i64 k ∧ vc = .int .i64 m ∧ Hid (RunS w B A xs L ds (.slice a xs.length c) (.slice b L.length c2) k m v1 v2 rs wr)) (fun _ i _ => n - (intOf i).toNat)
      case atStart => exact ⟨0, 0, _, _, rs, Nat.zero_le _, rfl, rfl, HST⟩
      case round =>
        clear HST
        obtain ⟨k, m, v1, v2, rs, hk, rfl, rfl, H⟩ := hrel
        have hm40 : m ≤ 40 := by have := H.out.small; omega
        obtain ⟨cx, hcx⟩ : ∃ cx, (runD xs L (ds.take k)).1 = cx := ⟨_, rfl⟩
        obtain ⟨cL, hcL⟩ : ∃ cL, (runD xs L (ds.take k)).2.1 = cL := ⟨_, rfl⟩
        obtain ⟨hrd, ⟨p1, f1, rfl⟩, ⟨p2, f2, rfl⟩⟩ := H.out.desk HDK.out hcx hcL
        have hA := H.out.v.blk
        by_cases hlt : k < n
        · have hki : (k : Int) < (n : Int) := by omega
          have hk0 : (0 : Int) ≤ (k : Int) := by omega
          have hkl : k < ds.length := by rw [HN.out]; exact hlt
          obtain ⟨bk, o, rfl, hi1, hi2, hcell⟩ := HDS.out.at hkl
          have hnx := run_next (xs := xs) (L := L) hkl
          obtain ⟨hq0, hq1⟩ := hcell wr (below_of HQ.out H.out.bel)
          have hcn := H.out.nn
          rw [hcx, hcL, hcn] at hnx
          obtain ⟨kk, hkk⟩ : ∃ kk, ds[k].1 = kk := ⟨_, rfl⟩
          obtain ⟨xx, hxx⟩ : ∃ xx, ds[k].2 = xx := ⟨_, rfl⟩
          rw [hkk] at hq0 hnx
          rw [hxx] at hq1 hi2 hnx
          obtain ⟨ok, hok⟩ : ∃ ok, dkB cx cL kk xx = ok := ⟨_, rfl⟩
          obtain ⟨nx, hnxx⟩ : ∃ nx, dkX cx cL kk xx = nx := ⟨_, rfl⟩
          obtain ⟨nL, hnL⟩ : ∃ nL, dkL cx cL kk xx = nL := ⟨_, rfl⟩
          rw [hok, hnxx, hnL] at hnx
          have HNX := Lib.hid hnx
          have hal := alloc_below wr (.cells #[.int .i64 kk, .int .i64 xx] 39)
          have HRD := Lib.hid (hrd.kept hal)
          have HCALL := Lib.hid (show Calls Tryz.prog 54 #[.agg #[.slice p1 cx.length f1, .slice p2 cL.length f2], .agg #[.int .i64 kk, .int .i64 xx]] (wr.alloc (.cells #[.int .i64 kk, .int .i64 xx] 39)) (DoneD ok nx nL (wr.alloc (.cells #[.int .i64 kk, .int .i64 xx] 39))) from by
            have := DeskDo_any _ cx cL kk xx hi2 _ HRD.out
            rw [hok, hnxx, hnL] at this; exact this)
          have HA1 := Lib.hid (hA.kept hal hA.lt)
          have HWP := Lib.hid hal
          have HBE := Lib.hid (Blk2.new wr 39 (.int .i64 kk) (.int .i64 xx))
          obtain ⟨wp, hwp⟩ : ∃ wp, wr.alloc (.cells #[.int .i64 kk, .int .i64 xx] 39) = wp := ⟨_, rfl⟩
          rw [hwp] at HRD HCALL HA1 HWP HBE
          have ha0 := HA1.out.cell.1; have ha1 := HA1.out.cell.2; have hb0 := HBE.out.cell.1; have hb1 := HBE.out.cell.2
          have HKL := Lib.hid hkl
          clear hrd hcell hcx hcL hkk hxx hok hnxx hnL hcn hnx hal hi1 hi2 hA hkl
          go_wp2_with fail
          clear hwp
          refine HCALL.out.mono ?_
          rintro e w5 ⟨v3, v4, rfl, hg⟩
          obtain ⟨p3, f3, rfl⟩ := hg.one
          obtain ⟨p4, f4, rfl⟩ := hg.two
          have hA5 := HA1.out.kept hg.below HA1.out.lt
          have hal5 := alloc_below w5 (.cells #[.slice p3 nx.length f3, .slice p4 nL.length f4] 31)
          have hA6 := hA5.kept hal5 hA5.lt
          have hN6 := Blk2.new w5 31 (.slice p3 nx.length f3) (.slice p4 nL.length f4)
          have HG := Lib.hid hg
          obtain ⟨w6, hw6⟩ : ∃ w6, w5.alloc (.cells #[.slice p3 nx.length f3, .slice p4 nL.length f4] 31) = w6 := ⟨_, rfl⟩
          have HW6 := Lib.hid hw6
          rw [hw6] at hA6 hN6
          have hx0 := hA6.cell.1; have hx1 := hA6.cell.2; have hx2 := hA6.frozen 0; have hx3 := hA6.frozen 1
          have hy0 := hN6.cell.1; have hy1 := hN6.cell.2
          have hne : ¬ w5.heap.size = A := fun e => by have := hA5.lt; omega
          have hne2 : ¬ A = w5.heap.size := fun e => hne e.symm
          clear hg hA5 hal5 hA6 hN6 ha0 ha1 hb0 hb1 hq0 hq1
          cases ok with
          | true =>
            have hm2 : (runD xs L (ds.take (k + 1))).2.2 = m + 1 := by rw [HNX.out]; rfl
            obtain ⟨rs', hns⟩ := H.out.next HKL.out HWP.out (by rw [HNX.out]; exact HG.out) hm2 (o := (.cells #[.slice p3 nx.length f3, .slice p4 nL.length f4] 31))
            rw [HW6.out] at hns
            have HNS := Lib.hid hns
            clear hns hm2
            go_wp2_with fail
            go_roundw
            case rel => exact ⟨k + 1, m + 1, _, _, rs', by omega, by go_num, by go_num, HNS⟩
            case measure => simp [intOf]; omega
          | false =>
            have hm2 : (runD xs L (ds.take (k + 1))).2.2 = m := by rw [HNX.out]; rfl
            obtain ⟨rs', hns⟩ := H.out.next HKL.out HWP.out (by rw [HNX.out]; exact HG.out) hm2 (o := (.cells #[.slice p3 nx.length f3, .slice p4 nL.length f4] 31))
            rw [HW6.out] at hns
            have HNS := Lib.hid hns
            clear hns hm2
            go_wp2_with fail
            go_roundw
            case rel => exact ⟨k + 1, m, _, _, rs', by omega, by go_num, by go_num, HNS⟩
            case measure => simp [intOf]; omega
        · have hki : ¬ (k : Int) < (n : Int) := by omega
          obtain ⟨hdone, hdn⟩ := H.out.done (show ds.length ≤ k by rw [HN.out]; omega)
          rw [← HE1.out, ← HE2.out] at hdone
          rw [← HE3.out] at hdn
          have HDONE := Lib.hid hdone
          have hkn : k = n := by omega
          have hR := H.out.r
          have ha0 := hA.cell.1; have ha1 := hA.cell.2
          have hx0 := hR.cell.1; have hx1 := hR.cell.2; have hx2 := hR.frozen 0; have hx3 := hR.frozen 1
          have HR := Lib.hid hR
          have HDN := Lib.hid hdn
          clear hdone hR hrd hcx hcL hA hdn
          subst hkn
          go_wp2_with fail
          refine bodyPost_ret (results_desk rfl _ _ (w.heap.size + 1) ((HR.out.set0 (.slice p1 cx.length f1)).set1 (.slice p2 cL.length f2)) rfl rfl (by kernel_rfl)) rfl ?_
          rw [HDN.out]
          exact ⟨_, _, rfl, HDONE.out⟩
    · have hd40 : decide ((40 : Int) < (n : Int)) = true := decide_eq_true (by omega)
      obtain ⟨e1, e2, e3⟩ := dr_no (show drB xs L ds = false by unfold drB; rw [HN.out, decide_eq_false h40, Bool.and_false])
      rw [e1, e2, e3]
      clear hdk e1 e2 e3 h40
      go_enter Tryz.func16, Tryz.ntmps16
      go_wp2_with fail
      clear hw2
      refine (DeskOk_any _ xs L _ HDR.out).mono ?_
      rintro e w4 ⟨rfl, hb4⟩
      rw [HDK.out]
      have hR := HBR.out.kept hb4 HBR.out.lt
      have hx0 := hR.cell.1; have hx1 := hR.cell.2; have hx2 := hR.frozen 0; have hx3 := hR.frozen 1
      have HR := Lib.hid hR; have HB := Lib.hid (below_onto HQ.out hb4)
      clear hb4 hR hc0 hc1
      go_wp2_with fail
      refine bodyPost_ret (results_desk rfl _ _ (w.heap.size + 1) ((HR.out.set0 (.slice none 0 0)).set1 (.slice none 0 0)) rfl rfl (by kernel_rfl)) rfl ?_
      exact ⟨_, _, rfl, noDesk_gives ((HB.out.setCell (p := ⟨w.heap.size + 1, 0, none⟩) (show w.heap.size ≤ w.heap.size + 1 by omega) _).setCell (p := ⟨w.heap.size + 1, 1, none⟩) (show w.heap.size ≤ w.heap.size + 1 by omega) _)⟩
end Go.Proofs.YthaickihoagnmaaGreatDoor

namespace Go.Proofs.YthaickihoagnmaaGreatDoor
set_option linter.unusedVariables false
set_option linter.unusedSimpArgs false
open Go.RowKit Go.Maps

/-- a deed more that is done -/
theorem RunS.put {w wr w6 : World} {B A T xb : Nat} {xs : List Int} {L : List (List Int)} {ds : List (Int × Int)} {X Y : Value} {k m m2 : Nat} {v1 v2 v3 v4 : Value} {rs rs' : List Fr} (h : RunS w B A xs L ds X Y k m v1 v2 rs wr)
    (hv : DeskV w6 wr.heap.size T xb v3 v4 (runD xs L (ds.take (k + 1))).1 rs') (hrs : rs'.map Fr.xs = (runD xs L (ds.take (k + 1))).2.1) (hT : T ≤ w6.heap.size) (hb : Below wr.heap.size wr w6) (hm : (runD xs L (ds.take (k + 1))).2.2 = m2) :
    RunS w B A xs L ds X Y (k + 1) m2 v3 v4 rs' ((w6.setCell ⟨A, 0, none⟩ v3).setCell ⟨A, 1, none⟩ v4) := by
  have hlo := h.lo; have hBA := h.v.lo; have hAl := h.v.blk.lt
  have hsz : ((w6.setCell ⟨A, 0, none⟩ v3).setCell ⟨A, 1, none⟩ v4).heap.size = w6.heap.size := by simp [World.setCell]
  have hbs := hb.size
  refine ⟨?_, ?_, ⟨((h.v.blk.kept hb hAl).set0 v3).set1 v4, ?_, fun e => by have := (hv.g.ltB _ e).1; omega, hBA, by omega, fun q hq => by have := hv.hi.2 q hq; omega⟩, hrs, hm, h.lo, ((below_onto h.bel hb).setCell (p := ⟨A, 0, none⟩) (show w.heap.size ≤ A by omega) _).setCell (p := ⟨A, 1, none⟩) (show w.heap.size ≤ A by omega) _⟩
  · exact ((h.d.kept hb h.d.lt).other (show w.heap.size ≠ A by omega) 0 v3).other (show w.heap.size ≠ A by omega) 1 v4
  · exact ((h.r.kept hb h.r.lt).other (show w.heap.size + 1 ≠ A by omega) 0 v3).other (show w.heap.size + 1 ≠ A by omega) 1 v4
  · exact ((hv.g.put (p := ⟨A, 0, none⟩) hAl).put (p := ⟨A, 1, none⟩) hAl).base (by omega)
/-- a deed more that cannot be done -/
theorem RunS.keep {w wr w6 : World} {B A : Nat} {xs : List Int} {L : List (List Int)} {ds : List (Int × Int)} {X Y : Value} {k m : Nat} {v1 v2 : Value} {rs : List Fr} (h : RunS w B A xs L ds X Y k m v1 v2 rs wr) (hb : Below wr.heap.size wr w6)
    (he : runD xs L (ds.take (k + 1)) = runD xs L (ds.take k)) : RunS w B A xs L ds X Y (k + 1) m v1 v2 rs w6 := by
  have hv := h.v.kept hb
  exact ⟨h.d.kept hb h.d.lt, h.r.kept hb h.r.lt, ⟨hv.blk, by rw [he]; exact hv.g, hv.ne, hv.lo, Nat.lt_of_lt_of_le hv.hi.1 hb.size, fun q hq => Nat.lt_of_lt_of_le (hv.hi.2 q hq) hb.size⟩, by rw [he]; exact h.mm, by rw [he]; exact h.nn, h.lo, below_onto h.bel hb⟩

end Go.Proofs.YthaickihoagnmaaGreatDoor

namespace Go.Proofs.YthaickihoagnmaaGreatDoor
set_option linter.unusedVariables false
set_option linter.unusedSimpArgs false
open Go.RowKit Go.Maps

/-- a desk's measure -/
def SzDEnd2 (xs : List Int) (L : List (List Int)) (w : World) (e : Ending) (w' : World) : Prop :=
  (∃ r : Int, e = .returned (.int .i64 r) ∧ (r = -1 ∨ ∃ m : Nat, r = m ∧ m ≤ 1048576 ∧ xs.length ≤ 1048576 ∧ L.length ≤ 1048576 ∧ ∀ l ∈ L, l.length ≤ 1048576)) ∧ Below w.heap.size w w'

set_option maxRecDepth 100000 in
set_option maxHeartbeats 1600000 in
theorem szDesk2_any (d : Value) (xs : List Int) (L : List (List Int)) (w : World) (h : DeskR w d xs L) :
    Calls Tryz.prog 29 #[d, .int .i64 1048576] w (SzDEnd2 xs L w) := by
  obtain ⟨a, c, b, c2, rfl, hi, hn⟩ := h.parts
  have h63 := hi.1.1
  have hal := alloc_below w (.cells #[.slice a xs.length c, .slice b L.length c2] 54)
  have hblk := Blk2.new w 54 (.slice a xs.length c) (.slice b L.length c2)
  have HN := Lib.hid (hn.kept hal); have HAL := Lib.hid hal; have HBL := Lib.hid hblk
  clear h hi hn hal hblk
  by_cases hs : xs.length ≤ 1048576
  · go_enter Tryz.func29, Tryz.ntmps29
    go_wp2_with fail
    refine (szIntS_any a xs.length c h63 1048576 (Nat.le_refl _) _).mono ?_
    rintro e w1 ⟨rfl, rfl⟩
    rw [if_pos hs]
    obtain ⟨m, hm⟩ : ∃ m : Nat, 1048576 - xs.length = m := ⟨_, rfl⟩
    have hmk : m ≤ 1048576 := by omega
    have hge : decide ((m : Int) < 0) = false := decide_eq_false (by omega)
    rw [hm]
    clear hm
    have hc1 := HBL.out.cell.2
    go_wp2_with fail
    refine (szNest_any b L c2 m hmk _ HN.out).mono ?_
    rintro e w2 ⟨r, rfl, hr, hb⟩
    have HB := Lib.hid (below_onto HAL.out hb)
    clear hb hc1 hge
    rcases hr with rfl | ⟨p, rfl, hp, hLk, hlk⟩
    · go_wp2_with fail
      go_ret
      exact ⟨⟨_, rfl, .inl rfl⟩, HB.out⟩
    · have hge : decide ((p : Int) < 0) = false := decide_eq_false (by omega)
      have HLK := Lib.hid hlk
      clear hlk
      go_wp2_with fail
      go_ret
      exact ⟨⟨_, rfl, .inr ⟨p, rfl, by omega, hs, by omega, fun l hl => Nat.le_trans (HLK.out l hl) hmk⟩⟩, HB.out⟩
  · go_enter Tryz.func29, Tryz.ntmps29
    go_wp2_with fail
    refine (szIntS_any a xs.length c h63 1048576 (Nat.le_refl _) _).mono ?_
    rintro e w1 ⟨rfl, rfl⟩
    rw [if_neg hs]
    go_wp2_with fail
    go_ret
    exact ⟨⟨_, rfl, .inl rfl⟩, HAL.out⟩

theorem okD_run (xs : List Int) (L : List (List Int)) (ds : List (Int × Int)) : okD (drX xs L ds) (drL xs L ds) := by
  cases h : drB xs L ds with
  | false => obtain ⟨e1, e2, _⟩ := dr_no h; rw [e1, e2]; exact okD_nil
  | true =>
    obtain ⟨e1, e2, _⟩ := dr_yes h
    rw [e1, e2]
    unfold drB at h
    rw [Bool.and_eq_true] at h
    exact run_okD h.1 ds

end Go.Proofs.YthaickihoagnmaaGreatDoor
