import Derived.Test.YtndcnfbncepihaaDkAC
namespace Go.Proofs.Ytndcnfbncepihaa
set_option linter.unusedVariables false
set_option linter.unusedSimpArgs false
open Go.RowKit Go.Maps

/-- a desk behind deeds, and how many were done -/
def RunEnd (xs : List Int) (L : List (List Int)) (n : Nat) (w : World) (e : Ending) (w' : World) : Prop := ∃ v1 v2, e = .returned (.tuple #[.agg #[v1, v2], .int .i64 n]) ∧ GivesD xs L w w' v1 v2

theorem below_of {w w2 wr : World} (h : Below w.heap.size w w2) (k : Below w.heap.size w wr) : Below w.heap.size w wr := k
theorem Dds.at {w : World} {a : Option Addr} {ds : List (Int × Int)} (h : Dds w a ds) {k : Nat} (hk : k < ds.length) :
    ∃ b o, a = some ⟨b, o, none⟩ ∧ I64 ds[k].1 ∧ I64 ds[k].2 ∧ ∀ W, Below w.heap.size w W → (W.cell? ⟨b, o + k * 2, none⟩ = some (.int .i64 ds[k].1) ∧ W.cell? ⟨b, o + k * 2 + 1, none⟩ = some (.int .i64 ds[k].2)) := by
  obtain ⟨b, o, e, hl, hr⟩ := h.row (by omega)
  exact ⟨b, o, e, (h.1.2 _ (List.getElem_mem hk)).1, (h.1.2 _ (List.getElem_mem hk)).2, fun W hW => (hr.kept hW hl) k hk⟩

/-- the state of a run -/
structure RunS (w : World) (B A : Nat) (xs : List Int) (L : List (List Int)) (ds : List (Int × Int)) (X Y : Value) (k m : Nat) (v1 v2 : Value) (rs : List Fr) (wr : World) : Prop where
  d : Blk2 wr w.heap.size 26 X Y
  r : Blk2 wr (w.heap.size + 1) 26 (.slice none 0 0) (.slice none 0 0)
  v : DeskV wr B wr.heap.size A v1 v2 (runD xs L (ds.take k)).1 rs
  mm : rs.map Fr.xs = (runD xs L (ds.take k)).2.1
  nn : (runD xs L (ds.take k)).2.2 = m
  lo : w.heap.size + 2 ≤ B
  bel : Below w.heap.size w wr
theorem run_next {xs : List Int} {L : List (List Int)} {ds : List (Int × Int)} {k : Nat} (hk : k < ds.length) :
    runD xs L (ds.take (k + 1)) = (dkX (runD xs L (ds.take k)).1 (runD xs L (ds.take k)).2.1 ds[k].1 ds[k].2, dkL (runD xs L (ds.take k)).1 (runD xs L (ds.take k)).2.1 ds[k].1 ds[k].2, (runD xs L (ds.take k)).2.2 + if dkB (runD xs L (ds.take k)).1 (runD xs L (ds.take k)).2.1 ds[k].1 ds[k].2 then 1 else 0) := by
  rw [List.take_succ_eq_append_getElem hk, run_snoc]
/-- a deed more: the desk is laid into its variable -/
theorem RunS.next {w wr wp w5 : World} {B A : Nat} {xs : List Int} {L : List (List Int)} {ds : List (Int × Int)} {X Y : Value} {k m m2 : Nat} {v1 v2 v3 v4 : Value} {rs : List Fr} {o : Obj} (h : RunS w B A xs L ds X Y k m v1 v2 rs wr) (hk : k < ds.length)
    (hp : Below wr.heap.size wr wp) (hg : GivesD (runD xs L (ds.take (k + 1))).1 (runD xs L (ds.take (k + 1))).2.1 wp w5 v3 v4) (hm : (runD xs L (ds.take (k + 1))).2.2 = m2) :
    ∃ rs', RunS w B A xs L ds X Y (k + 1) m2 v3 v4 rs' (((w5.alloc o).setCell ⟨A, 0, none⟩ v3).setCell ⟨A, 1, none⟩ v4) := by
  obtain ⟨rs', hdg, hrs, hb⟩ := hg
  have hb5 := below_onto hp hb
  have hb6 : Below wr.heap.size wr (w5.alloc o) := hb5.alloc hb5.size _
  have hlo := h.lo; have hBA := h.v.lo; have hAl := h.v.blk.lt
  have hAp : A < wp.heap.size := Nat.lt_of_lt_of_le hAl hp.size
  have hBp : B ≤ wp.heap.size := by omega
  have hbw : Below w.heap.size w (((w5.alloc o).setCell ⟨A, 0, none⟩ v3).setCell ⟨A, 1, none⟩ v4) := ((below_onto h.bel hb6).setCell (p := ⟨A, 0, none⟩) (show w.heap.size ≤ A by omega) _).setCell (p := ⟨A, 1, none⟩) (show w.heap.size ≤ A by omega) _
  have hsz : (((w5.alloc o).setCell ⟨A, 0, none⟩ v3).setCell ⟨A, 1, none⟩ v4).heap.size = w5.heap.size + 1 := by simp [World.setCell]
  refine ⟨rs', ?_, ?_, ⟨((h.v.blk.kept hb6 hAl).set0 v3).set1 v4, ?_, fun e => by have := (hdg.ltB _ e).1; omega, hBA, by have := hb5.size; omega, fun q hq => by have := (hdg.ltB q hq).2; omega⟩, hrs, hm, h.lo, hbw⟩
  · exact ((h.d.kept hb6 h.d.lt).other (show w.heap.size ≠ A by omega) 0 v3).other (show w.heap.size ≠ A by omega) 1 v4
  · exact ((h.r.kept hb6 h.r.lt).other (show w.heap.size + 1 ≠ A by omega) 0 v3).other (show w.heap.size + 1 ≠ A by omega) 1 v4
  · exact (((hdg.kept (alloc_below w5 o)).put (p := ⟨A, 0, none⟩) hAp).put (p := ⟨A, 1, none⟩) hAp).base hBp
/-- the desk is handed back -/
theorem RunS.done {w wr : World} {B A : Nat} {xs : List Int} {L : List (List Int)} {ds : List (Int × Int)} {X Y : Value} {k m : Nat} {v1 v2 : Value} {rs : List Fr} (h : RunS w B A xs L ds X Y k m v1 v2 rs wr) (hk : ds.length ≤ k) :
    GivesD (runD xs L ds).1 (runD xs L ds).2.1 w ((wr.setCell ⟨w.heap.size + 1, 0, none⟩ v1).setCell ⟨w.heap.size + 1, 1, none⟩ v2) v1 v2 ∧ (runD xs L ds).2.2 = m := by
  have hv := h.v; have hm := h.mm; have hn := h.nn
  rw [List.take_of_length_le hk] at hv hm hn
  have hlo := h.lo
  exact ⟨⟨rs, ((hv.g.put (p := ⟨w.heap.size + 1, 0, none⟩) (show w.heap.size + 1 < B by omega)).put (p := ⟨w.heap.size + 1, 1, none⟩) (show w.heap.size + 1 < B by omega)).base (by omega), hm,
    (h.bel.setCell (p := ⟨w.heap.size + 1, 0, none⟩) (show w.heap.size ≤ w.heap.size + 1 by omega) _).setCell (p := ⟨w.heap.size + 1, 1, none⟩) (show w.heap.size ≤ w.heap.size + 1 by omega) _⟩, hn⟩
theorem run_okD {xs : List Int} {L : List (List Int)} (h : deskB xs L = true) (ds : List (Int × Int)) : okD (runD xs L ds).1 (runD xs L ds).2.1 := okD_desk (run_desk h ds)
theorem RunS.small {w wr : World} {B A : Nat} {xs : List Int} {L : List (List Int)} {ds : List (Int × Int)} {X Y : Value} {k m : Nat} {v1 v2 : Value} {rs : List Fr} (h : RunS w B A xs L ds X Y k m v1 v2 rs wr) : m ≤ k := by
  rw [← h.nn]
  exact Nat.le_trans (run_count _ _ _) (List.length_take_le _ _)
/-- what a round knows of the desk -/
theorem RunS.desk {w wr : World} {B A : Nat} {xs : List Int} {L : List (List Int)} {ds : List (Int × Int)} {X Y : Value} {k m : Nat} {v1 v2 : Value} {rs : List Fr} (h : RunS w B A xs L ds X Y k m v1 v2 rs wr) (hd : deskB xs L = true) {cx : List Int} {cL : List (List Int)} (hx : (runD xs L (ds.take k)).1 = cx) (hL : (runD xs L (ds.take k)).2.1 = cL) :
    DeskR wr (.agg #[v1, v2]) cx cL ∧ (∃ a c, v1 = .slice a cx.length c) ∧ ∃ a c, v2 = .slice a cL.length c := by
  subst hx; subst hL
  refine ⟨h.v.read h.mm (run_okD hd _), h.v.g.now.slice, ?_⟩
  have := h.v.g.past.seq.slice
  rw [← h.mm]
  rw [List.length_map] at this ⊢
  exact this
/-- the start of a run -/
theorem RunS.start {w w2 w5 : World} {xs : List Int} {L : List (List Int)} {ds : List (Int × Int)} {X Y v1 v2 : Value} (hd : Blk2 w2 w.heap.size 26 X Y) (hr : Blk2 w2 (w.heap.size + 1) 26 (.slice none 0 0) (.slice none 0 0)) (hb : Below w.heap.size w w2) (hg : GivesD xs L w2 w5 v1 v2) :
    ∃ rs, RunS w w2.heap.size w5.heap.size xs L ds X Y 0 0 v1 v2 rs (w5.alloc (.cells #[v1, v2] 26)) := by
  obtain ⟨rs, hv, hrs⟩ := deskV_of hg
  have hb5 := hg.below
  have hb6 := hb5.alloc hb5.size (.cells #[v1, v2] 26)
  refine ⟨rs, hd.kept hb6 hd.lt, hr.kept hb6 hr.lt, ?_, ?_, ?_, hr.lt, below_onto hb hb6⟩
  · rw [List.take_zero, alloc_size]; exact hv
  · rw [List.take_zero]; exact hrs
  · rw [List.take_zero]; rfl

set_option maxRecDepth 100000 in
set_option maxHeartbeats 6400000 in
theorem DeskRun_any (d : Value) (xs : List Int) (L : List (List Int)) (a1 : Option Addr) (ds : List (Int × Int)) (cd : Nat) (w : World) (h : DeskR w d xs L) (hds : Dds w a1 ds) :
    Calls Try.prog 28 #[d, .slice a1 ds.length cd] w (RunEnd (drX xs L ds) (drL xs L ds) (drN xs L ds) w) := by
  have hdd := h
  obtain ⟨a, c, b, c2, rfl, _⟩ := h.parts
  have q1 := alloc_below w (.cells #[.slice a xs.length c, .slice b L.length c2] 26)
  have q2 := alloc_below (w.alloc (.cells #[.slice a xs.length c, .slice b L.length c2] 26)) (.cells #[.slice none 0 0, .slice none 0 0] 26)
  have b1 := (Blk2.new w 26 (.slice a xs.length c) (.slice b L.length c2)).kept q2 (by rw [alloc_size]; omega)
  have b2 := (Blk2.new (w.alloc (.cells #[.slice a xs.length c, .slice b L.length c2] 26)) 26 (.slice none 0 0) (.slice none 0 0))
  rw [alloc_size] at b2
  have hq := below_onto q1 q2
  have hdr := hdd.kept hq
  obtain ⟨w2, hw2⟩ : ∃ w2, (w.alloc (.cells #[.slice a xs.length c, .slice b L.length c2] 26)).alloc (.cells #[.slice none 0 0, .slice none 0 0] 26) = w2 := ⟨_, rfl⟩
  rw [hw2] at b1 b2 hq hdr
  have HBL := Lib.hid b1; have HBR := Lib.hid b2; have HQ := Lib.hid hq; have HDR := Lib.hid hdr; have HDS := Lib.hid hds
  have hc0 := b1.cell.1; have hc1 := b1.cell.2
  obtain ⟨n, hn⟩ : ∃ n, ds.length = n := ⟨_, rfl⟩
  have HN := Lib.hid hn
  have h63 : n ≤ 9223372036854775807 := by rw [← hn]; exact hds.1.1
  rw [hn]
  clear h hdd q1 q2 b1 b2 hq hdr hds hn
  cases hdk : deskB xs L with
  | false =>
    obtain ⟨e1, e2, e3⟩ := dr_no (ds := ds) (show drB xs L ds = false by unfold drB; rw [hdk, Bool.false_and])
    rw [e1, e2, e3]
    have HDK := Lib.hid hdk
    clear hdk e1 e2 e3
    go_enter Try.func28, Try.ntmps28
    go_wp2_with fail
    clear hw2
    refine (DeskOk_any _ xs L _ HDR.out).mono ?_
    rintro e w4 ⟨rfl, hb4⟩
    rw [HDK.out]
    have hR := HBR.out.kept hb4 HBR.out.lt
    have hx0 := hR.cell.1; have hx1 := hR.cell.2; have hx2 := hR.frozen 0; have hx3 := hR.frozen 1
    have HR := Lib.hid hR; have HB := Lib.hid (below_onto HQ.out hb4)
    clear hb4 hR hc0 hc1
    go_wp2_with fail
    refine bodyPost_ret (results_desk rfl _ _ (w.heap.size + 1) ((HR.out.set0 (.slice none 0 0)).set1 (.slice none 0 0)) rfl rfl (by kernel_rfl)) rfl ?_
    exact ⟨_, _, rfl, noDesk_gives ((HB.out.setCell (p := ⟨w.heap.size + 1, 0, none⟩) (show w.heap.size ≤ w.heap.size + 1 by omega) _).setCell (p := ⟨w.heap.size + 1, 1, none⟩) (show w.heap.size ≤ w.heap.size + 1 by omega) _)⟩
  | true =>
    have HDK := Lib.hid hdk
    by_cases h40 : n ≤ 40
    · obtain ⟨e1, e2, e3⟩ := dr_yes (show drB xs L ds = true by unfold drB; rw [hdk, HN.out, decide_eq_true h40]; rfl)
      obtain ⟨rX, hrX⟩ : ∃ rX, drX xs L ds = rX := ⟨_, rfl⟩
      obtain ⟨rL, hrL⟩ : ∃ rL, drL xs L ds = rL := ⟨_, rfl⟩
      obtain ⟨rN, hrN⟩ : ∃ rN, drN xs L ds = rN := ⟨_, rfl⟩
      rw [hrX, hrL, hrN]
      have HE1 := Lib.hid (hrX.symm.trans e1); have HE2 := Lib.hid (hrL.symm.trans e2); have HE3 := Lib.hid (hrN.symm.trans e3)
      have hd40 : decide ((40 : Int) < (n : Int)) = false := decide_eq_false (by omega)
      clear hdk e1 e2 e3 hrX hrL hrN
      go_enter Try.func28, Try.ntmps28
      go_wp2_with fail
      clear hw2
      refine (DeskOk_any _ xs L _ HDR.out).mono ?_
      rintro e w4 ⟨rfl, hb4⟩
      rw [HDK.out]
      have HB4 := Lib.hid hb4
      have hD := HBL.out.kept hb4 HBL.out.lt
      have he0 := hD.cell.1; have he1 := hD.cell.2
      clear hb4 hD hc0 hc1
      go_wp2_with fail
      refine (copied_any _ xs L HDK.out _ (HDR.out.kept HB4.out)).mono ?_
      rintro e w5 ⟨v1, v2, rfl, hg⟩
      obtain ⟨p1, f1, rfl⟩ := hg.one
      obtain ⟨p2, f2, rfl⟩ := hg.two
      obtain ⟨rs, hst⟩ := RunS.start (ds := ds) (HBL.out.kept HB4.out HBL.out.lt) (HBR.out.kept HB4.out HBR.out.lt) (below_onto HQ.out HB4.out) hg
      have HST := Lib.hid hst
      obtain ⟨B, hB⟩ : ∃ B, w4.heap.size = B := ⟨_, rfl⟩
      obtain ⟨A, hA⟩ : ∃ A, w5.heap.size = A := ⟨_, rfl⟩
      obtain ⟨w6, hw6⟩ : ∃ w6, w5.alloc (.cells #[.slice p1 xs.length f1, .slice p2 L.length f2] 26) = w6 := ⟨_, rfl⟩
      rw [hB, hA, hw6] at HST
      clear hg hst he0 he1 hB
      go_wp2_with fail
      clear hw6 hA
      go_loopw [7, 25] (fun vc i wr => ∃ (k m : Nat) (v1 v2 : Value) (rs : List Fr), k ≤ n ∧ i = .int .i64 k ∧ vc = .int .i64 m ∧ Hid (RunS w B A xs L ds (.slice a xs.length c) (.slice b L.length c2) k m v1 v2 rs wr)) (fun _ i _ => n - (intOf i).toNat)
      case atStart => exact ⟨0, 0, _, _, rs, Nat.zero_le _, rfl, rfl, HST⟩
      case round =>
        clear HST
        obtain ⟨k, m, v1, v2, rs, hk, rfl, rfl, H⟩ := hrel
        have hm40 : m ≤ 40 := by have := H.out.small; omega
        obtain ⟨cx, hcx⟩ : ∃ cx, (runD xs L (ds.take k)).1 = cx := ⟨_, rfl⟩
        obtain ⟨cL, hcL⟩ : ∃ cL, (runD xs L (ds.take k)).2.1 = cL := ⟨_, rfl⟩
        obtain ⟨hrd, ⟨p1, f1, rfl⟩, ⟨p2, f2, rfl⟩⟩ := H.out.desk HDK.out hcx hcL
        have hA := H.out.v.blk
        by_cases hlt : k < n
        · have hki : (k : Int) < (n : Int) := by omega
          have hk0 : (0 : Int) ≤ (k : Int) := by omega
          have hkl : k < ds.length := by rw [HN.out]; exact hlt
          obtain ⟨bk, o, rfl, hi1, hi2, hcell⟩ := HDS.out.at hkl
          have hnx := run_next (xs := xs) (L := L) hkl
          obtain ⟨hq0, hq1⟩ := hcell wr (below_of HQ.out H.out.bel)
          have hcn := H.out.nn
          rw [hcx, hcL, hcn] at hnx
          obtain ⟨kk, hkk⟩ : ∃ kk, ds[k].1 = kk := ⟨_, rfl⟩
          obtain ⟨xx, hxx⟩ : ∃ xx, ds[k].2 = xx := ⟨_, rfl⟩
          rw [hkk] at hq0 hnx
          rw [hxx] at hq1 hi2 hnx
          obtain ⟨ok, hok⟩ : ∃ ok, dkB cx cL kk xx = ok := ⟨_, rfl⟩
          obtain ⟨nx, hnxx⟩ : ∃ nx, dkX cx cL kk xx = nx := ⟨_, rfl⟩
          obtain ⟨nL, hnL⟩ : ∃ nL, dkL cx cL kk xx = nL := ⟨_, rfl⟩
          rw [hok, hnxx, hnL] at hnx
          have HNX := Lib.hid hnx
          have hal := alloc_below wr (.cells #[.int .i64 kk, .int .i64 xx] 38)
          have HRD := Lib.hid (hrd.kept hal)
          have HCALL := Lib.hid (show Calls Try.prog 23 #[.agg #[.slice p1 cx.length f1, .slice p2 cL.length f2], .agg #[.int .i64 kk, .int .i64 xx]] (wr.alloc (.cells #[.int .i64 kk, .int .i64 xx] 38)) (DoneD ok nx nL (wr.alloc (.cells #[.int .i64 kk, .int .i64 xx] 38))) from by
            have := DeskDo_any _ cx cL kk xx hi2 _ HRD.out
            rw [hok, hnxx, hnL] at this; exact this)
          have HA1 := Lib.hid (hA.kept hal hA.lt)
          have HWP := Lib.hid hal
          have HBE := Lib.hid (Blk2.new wr 38 (.int .i64 kk) (.int .i64 xx))
          obtain ⟨wp, hwp⟩ : ∃ wp, wr.alloc (.cells #[.int .i64 kk, .int .i64 xx] 38) = wp := ⟨_, rfl⟩
          rw [hwp] at HRD HCALL HA1 HWP HBE
          have ha0 := HA1.out.cell.1; have ha1 := HA1.out.cell.2; have hb0 := HBE.out.cell.1; have hb1 := HBE.out.cell.2
          have HKL := Lib.hid hkl
          clear hrd hcell hcx hcL hkk hxx hok hnxx hnL hcn hnx hal hi1 hi2 hA hkl
          go_wp2_with fail
          clear hwp
          refine HCALL.out.mono ?_
          rintro e w5 ⟨v3, v4, rfl, hg⟩
          obtain ⟨p3, f3, rfl⟩ := hg.one
          obtain ⟨p4, f4, rfl⟩ := hg.two
          have hA5 := HA1.out.kept hg.below HA1.out.lt
          have hal5 := alloc_below w5 (.cells #[.slice p3 nx.length f3, .slice p4 nL.length f4] 26)
          have hA6 := hA5.kept hal5 hA5.lt
          have hN6 := Blk2.new w5 26 (.slice p3 nx.length f3) (.slice p4 nL.length f4)
          have HG := Lib.hid hg
          obtain ⟨w6, hw6⟩ : ∃ w6, w5.alloc (.cells #[.slice p3 nx.length f3, .slice p4 nL.length f4] 26) = w6 := ⟨_, rfl⟩
          have HW6 := Lib.hid hw6
          rw [hw6] at hA6 hN6
          have hx0 := hA6.cell.1; have hx1 := hA6.cell.2; have hx2 := hA6.frozen 0; have hx3 := hA6.frozen 1
          have hy0 := hN6.cell.1; have hy1 := hN6.cell.2
          have hne : ¬ w5.heap.size = A := fun e => by have := hA5.lt; omega
          have hne2 : ¬ A = w5.heap.size := fun e => hne e.symm
          clear hg hA5 hal5 hA6 hN6 ha0 ha1 hb0 hb1 hq0 hq1
          cases ok with
          | true =>
            have hm2 : (runD xs L (ds.take (k + 1))).2.2 = m + 1 := by rw [HNX.out]; rfl
            obtain ⟨rs', hns⟩ := H.out.next HKL.out HWP.out (by rw [HNX.out]; exact HG.out) hm2 (o := (.cells #[.slice p3 nx.length f3, .slice p4 nL.length f4] 26))
            rw [HW6.out] at hns
            have HNS := Lib.hid hns
            clear hns hm2
            go_wp2_with fail
            go_roundw
            case rel => exact ⟨k + 1, m + 1, _, _, rs', by omega, by go_num, by go_num, HNS⟩
            case measure => simp [intOf]; omega
          | false =>
            have hm2 : (runD xs L (ds.take (k + 1))).2.2 = m := by rw [HNX.out]; rfl
            obtain ⟨rs', hns⟩ := H.out.next HKL.out HWP.out (by rw [HNX.out]; exact HG.out) hm2 (o := (.cells #[.slice p3 nx.length f3, .slice p4 nL.length f4] 26))
            rw [HW6.out] at hns
            have HNS := Lib.hid hns
            clear hns hm2
            go_wp2_with fail
            go_roundw
            case rel => exact ⟨k + 1, m, _, _, rs', by omega, by go_num, by go_num, HNS⟩
            case measure => simp [intOf]; omega
        · have hki : ¬ (k : Int) < (n : Int) := by omega
          obtain ⟨hdone, hdn⟩ := H.out.done (show ds.length ≤ k by rw [HN.out]; omega)
          rw [← HE1.out, ← HE2.out] at hdone
          rw [← HE3.out] at hdn
          have HDONE := Lib.hid hdone
          have hkn : k = n := by omega
          have hR := H.out.r
          have ha0 := hA.cell.1; have ha1 := hA.cell.2
          have hx0 := hR.cell.1; have hx1 := hR.cell.2; have hx2 := hR.frozen 0; have hx3 := hR.frozen 1
          have HR := Lib.hid hR
          have HDN := Lib.hid hdn
          clear hdone hR hrd hcx hcL hA hdn
          subst hkn
          go_wp2_with fail
          refine bodyPost_ret (results_desk rfl _ _ (w.heap.size + 1) ((HR.out.set0 (.slice p1 cx.length f1)).set1 (.slice p2 cL.length f2)) rfl rfl (by kernel_rfl)) rfl ?_
          rw [HDN.out]
          exact ⟨_, _, rfl, HDONE.out⟩
    · have hd40 : decide ((40 : Int) < (n : Int)) = true := decide_eq_true (by omega)
      obtain ⟨e1, e2, e3⟩ := dr_no (show drB xs L ds = false by unfold drB; rw [HN.out, decide_eq_false h40, Bool.and_false])
      rw [e1, e2, e3]
      clear hdk e1 e2 e3 h40
      go_enter Try.func28, Try.ntmps28
      go_wp2_with fail
      clear hw2
      refine (DeskOk_any _ xs L _ HDR.out).mono ?_
      rintro e w4 ⟨rfl, hb4⟩
      rw [HDK.out]
      have hR := HBR.out.kept hb4 HBR.out.lt
      have hx0 := hR.cell.1; have hx1 := hR.cell.2; have hx2 := hR.frozen 0; have hx3 := hR.frozen 1
      have HR := Lib.hid hR; have HB := Lib.hid (below_onto HQ.out hb4)
      clear hb4 hR hc0 hc1
      go_wp2_with fail
      refine bodyPost_ret (results_desk rfl _ _ (w.heap.size + 1) ((HR.out.set0 (.slice none 0 0)).set1 (.slice none 0 0)) rfl rfl (by kernel_rfl)) rfl ?_
      exact ⟨_, _, rfl, noDesk_gives ((HB.out.setCell (p := ⟨w.heap.size + 1, 0, none⟩) (show w.heap.size ≤ w.heap.size + 1 by omega) _).setCell (p := ⟨w.heap.size + 1, 1, none⟩) (show w.heap.size ≤ w.heap.size + 1 by omega) _)⟩
end Go.Proofs.Ytndcnfbncepihaa

namespace Go.Proofs.Ytndcnfbncepihaa
set_option linter.unusedVariables false
set_option linter.unusedSimpArgs false
open Go.RowKit Go.Maps

/-- a deed more that is done -/
theorem RunS.put {w wr w6 : World} {B A T xb : Nat} {xs : List Int} {L : List (List Int)} {ds : List (Int × Int)} {X Y : Value} {k m m2 : Nat} {v1 v2 v3 v4 : Value} {rs rs' : List Fr} (h : RunS w B A xs L ds X Y k m v1 v2 rs wr)
    (hv : DeskV w6 wr.heap.size T xb v3 v4 (runD xs L (ds.take (k + 1))).1 rs') (hrs : rs'.map Fr.xs = (runD xs L (ds.take (k + 1))).2.1) (hT : T ≤ w6.heap.size) (hb : Below wr.heap.size wr w6) (hm : (runD xs L (ds.take (k + 1))).2.2 = m2) :
    RunS w B A xs L ds X Y (k + 1) m2 v3 v4 rs' ((w6.setCell ⟨A, 0, none⟩ v3).setCell ⟨A, 1, none⟩ v4) := by
  have hlo := h.lo; have hBA := h.v.lo; have hAl := h.v.blk.lt
  have hsz : ((w6.setCell ⟨A, 0, none⟩ v3).setCell ⟨A, 1, none⟩ v4).heap.size = w6.heap.size := by simp [World.setCell]
  have hbs := hb.size
  refine ⟨?_, ?_, ⟨((h.v.blk.kept hb hAl).set0 v3).set1 v4, ?_, fun e => by have := (hv.g.ltB _ e).1; omega, hBA, by omega, fun q hq => by have := hv.hi.2 q hq; omega⟩, hrs, hm, h.lo, ((below_onto h.bel hb).setCell (p := ⟨A, 0, none⟩) (show w.heap.size ≤ A by omega) _).setCell (p := ⟨A, 1, none⟩) (show w.heap.size ≤ A by omega) _⟩
  · exact ((h.d.kept hb h.d.lt).other (show w.heap.size ≠ A by omega) 0 v3).other (show w.heap.size ≠ A by omega) 1 v4
  · exact ((h.r.kept hb h.r.lt).other (show w.heap.size + 1 ≠ A by omega) 0 v3).other (show w.heap.size + 1 ≠ A by omega) 1 v4
  · exact ((hv.g.put (p := ⟨A, 0, none⟩) hAl).put (p := ⟨A, 1, none⟩) hAl).base (by omega)
/-- a deed more that cannot be done -/
theorem RunS.keep {w wr w6 : World} {B A : Nat} {xs : List Int} {L : List (List Int)} {ds : List (Int × Int)} {X Y : Value} {k m : Nat} {v1 v2 : Value} {rs : List Fr} (h : RunS w B A xs L ds X Y k m v1 v2 rs wr) (hb : Below wr.heap.size wr w6)
    (he : runD xs L (ds.take (k + 1)) = runD xs L (ds.take k)) : RunS w B A xs L ds X Y (k + 1) m v1 v2 rs w6 := by
  have hv := h.v.kept hb
  exact ⟨h.d.kept hb h.d.lt, h.r.kept hb h.r.lt, ⟨hv.blk, by rw [he]; exact hv.g, hv.ne, hv.lo, Nat.lt_of_lt_of_le hv.hi.1 hb.size, fun q hq => Nat.lt_of_lt_of_le (hv.hi.2 q hq) hb.size⟩, by rw [he]; exact h.mm, by rw [he]; exact h.nn, h.lo, below_onto h.bel hb⟩

set_option maxRecDepth 100000 in
set_option maxHeartbeats 6400000 in
theorem specDeskRun_any (d : Value) (xs : List Int) (L : List (List Int)) (a1 : Option Addr) (ds : List (Int × Int)) (cd : Nat) (w : World) (h : DeskR w d xs L) (hds : Dds w a1 ds) :
    Calls Try.prog 29 #[d, .slice a1 ds.length cd] w (RunEnd (drX xs L ds) (drL xs L ds) (drN xs L ds) w) := by
  have hdd := h
  obtain ⟨a, c, b, c2, rfl, _⟩ := h.parts
  have q1 := alloc_below w (.cells #[.slice a xs.length c, .slice b L.length c2] 26)
  have q2 := alloc_below (w.alloc (.cells #[.slice a xs.length c, .slice b L.length c2] 26)) (.cells #[.slice none 0 0, .slice none 0 0] 26)
  have b1 := (Blk2.new w 26 (.slice a xs.length c) (.slice b L.length c2)).kept q2 (by rw [alloc_size]; omega)
  have b2 := (Blk2.new (w.alloc (.cells #[.slice a xs.length c, .slice b L.length c2] 26)) 26 (.slice none 0 0) (.slice none 0 0))
  rw [alloc_size] at b2
  have hq := below_onto q1 q2
  have hdr := hdd.kept hq
  obtain ⟨w2, hw2⟩ : ∃ w2, (w.alloc (.cells #[.slice a xs.length c, .slice b L.length c2] 26)).alloc (.cells #[.slice none 0 0, .slice none 0 0] 26) = w2 := ⟨_, rfl⟩
  rw [hw2] at b1 b2 hq hdr
  have HBL := Lib.hid b1; have HBR := Lib.hid b2; have HQ := Lib.hid hq; have HDR := Lib.hid hdr; have HDS := Lib.hid hds
  have hc0 := b1.cell.1; have hc1 := b1.cell.2
  obtain ⟨n, hn⟩ : ∃ n, ds.length = n := ⟨_, rfl⟩
  have HN := Lib.hid hn
  have h63 : n ≤ 9223372036854775807 := by rw [← hn]; exact hds.1.1
  rw [hn]
  clear h hdd q1 q2 b1 b2 hq hdr hds hn
  cases hdk : deskB xs L with
  | false =>
    obtain ⟨e1, e2, e3⟩ := dr_no (ds := ds) (show drB xs L ds = false by unfold drB; rw [hdk, Bool.false_and])
    rw [e1, e2, e3]
    have HDK := Lib.hid hdk
    clear hdk e1 e2 e3
    go_enter Try.func29, Try.ntmps29
    go_wp2_with fail
    clear hw2
    refine (specDeskOk_any _ xs L _ HDR.out).mono ?_
    rintro e w4 ⟨rfl, hb4⟩
    rw [HDK.out]
    have hR := HBR.out.kept hb4 HBR.out.lt
    have hx0 := hR.cell.1; have hx1 := hR.cell.2; have hx2 := hR.frozen 0; have hx3 := hR.frozen 1
    have HR := Lib.hid hR; have HB := Lib.hid (below_onto HQ.out hb4)
    clear hb4 hR hc0 hc1
    go_wp2_with fail
    refine bodyPost_ret (results_desk rfl _ _ (w.heap.size + 1) ((HR.out.set0 (.slice none 0 0)).set1 (.slice none 0 0)) rfl rfl (by kernel_rfl)) rfl ?_
    exact ⟨_, _, rfl, noDesk_gives ((HB.out.setCell (p := ⟨w.heap.size + 1, 0, none⟩) (show w.heap.size ≤ w.heap.size + 1 by omega) _).setCell (p := ⟨w.heap.size + 1, 1, none⟩) (show w.heap.size ≤ w.heap.size + 1 by omega) _)⟩
  | true =>
    have HDK := Lib.hid hdk
    by_cases h40 : n ≤ 40
    · obtain ⟨e1, e2, e3⟩ := dr_yes (show drB xs L ds = true by unfold drB; rw [hdk, HN.out, decide_eq_true h40]; rfl)
      obtain ⟨rX, hrX⟩ : ∃ rX, drX xs L ds = rX := ⟨_, rfl⟩
      obtain ⟨rL, hrL⟩ : ∃ rL, drL xs L ds = rL := ⟨_, rfl⟩
      obtain ⟨rN, hrN⟩ : ∃ rN, drN xs L ds = rN := ⟨_, rfl⟩
      rw [hrX, hrL, hrN]
      have HE1 := Lib.hid (hrX.symm.trans e1); have HE2 := Lib.hid (hrL.symm.trans e2); have HE3 := Lib.hid (hrN.symm.trans e3)
      have hd40 : decide ((40 : Int) < (n : Int)) = false := decide_eq_false (by omega)
      clear hdk e1 e2 e3 hrX hrL hrN
      go_enter Try.func29, Try.ntmps29
      go_wp2_with fail
      clear hw2
      refine (specDeskOk_any _ xs L _ HDR.out).mono ?_
      rintro e w4 ⟨rfl, hb4⟩
      rw [HDK.out]
      have HB4 := Lib.hid hb4
      have hD := HBL.out.kept hb4 HBL.out.lt
      have he0 := hD.cell.1; have he1 := hD.cell.2
      clear hb4 hD hc0 hc1
      go_wp2_with fail
      refine (l12Copy_any _ xs L HDK.out _ (HDR.out.kept HB4.out)).mono ?_
      rintro e w5 ⟨v1, v2, rfl, hgo⟩
      have hg := hgo.desk
      clear hgo
      obtain ⟨p1, f1, rfl⟩ := hg.one
      obtain ⟨p2, f2, rfl⟩ := hg.two
      obtain ⟨rs, hst⟩ := RunS.start (ds := ds) (HBL.out.kept HB4.out HBL.out.lt) (HBR.out.kept HB4.out HBR.out.lt) (below_onto HQ.out HB4.out) hg
      have HST := Lib.hid hst
      obtain ⟨B, hB⟩ : ∃ B, w4.heap.size = B := ⟨_, rfl⟩
      obtain ⟨A, hA⟩ : ∃ A, w5.heap.size = A := ⟨_, rfl⟩
      obtain ⟨w6, hw6⟩ : ∃ w6, w5.alloc (.cells #[.slice p1 xs.length f1, .slice p2 L.length f2] 26) = w6 := ⟨_, rfl⟩
      rw [hB, hA, hw6] at HST
      clear hg hst he0 he1 hB
      go_wp2_with fail
      clear hw6 hA
      go_loopw [7, 8] (fun vc i wr => ∃ (k m : Nat) (v1 v2 : Value) (rs : List Fr), k ≤ n ∧ i = .int .i64 k ∧ vc = .int .i64 m ∧ Hid (RunS w B A xs L ds (.slice a xs.length c) (.slice b L.length c2) k m v1 v2 rs wr)) (fun _ i _ => n - (intOf i).toNat)
      case atStart => exact ⟨0, 0, _, _, rs, Nat.zero_le _, rfl, rfl, HST⟩
      case round =>
        clear HST
        obtain ⟨k, m, v1, v2, rs, hk, rfl, rfl, H⟩ := hrel
        have hm40 : m ≤ 40 := by have := H.out.small; omega
        obtain ⟨cx, hcx⟩ : ∃ cx, (runD xs L (ds.take k)).1 = cx := ⟨_, rfl⟩
        obtain ⟨cL, hcL⟩ : ∃ cL, (runD xs L (ds.take k)).2.1 = cL := ⟨_, rfl⟩
        obtain ⟨hrd, ⟨p1, f1, rfl⟩, ⟨p2, f2, rfl⟩⟩ := H.out.desk HDK.out hcx hcL
        have hA := H.out.v.blk
        by_cases hlt : k < n
        · have hki : (k : Int) < (n : Int) := by omega
          have hk0 : (0 : Int) ≤ (k : Int) := by omega
          have hkl : k < ds.length := by rw [HN.out]; exact hlt
          obtain ⟨bk, o, rfl, hi1, hi2, hcell⟩ := HDS.out.at hkl
          have hnx := run_next (xs := xs) (L := L) hkl
          obtain ⟨hq0, hq1⟩ := hcell wr (below_of HQ.out H.out.bel)
          have hcn := H.out.nn
          rw [hcx, hcL, hcn] at hnx
          obtain ⟨kk, hkk⟩ : ∃ kk, ds[k].1 = kk := ⟨_, rfl⟩
          obtain ⟨xx, hxx⟩ : ∃ xx, ds[k].2 = xx := ⟨_, rfl⟩
          rw [hkk] at hq0 hnx
          rw [hxx] at hq1 hi2 hnx
          obtain ⟨ok, hok⟩ : ∃ ok, dkB cx cL kk xx = ok := ⟨_, rfl⟩
          obtain ⟨nx, hnxx⟩ : ∃ nx, dkX cx cL kk xx = nx := ⟨_, rfl⟩
          obtain ⟨nL, hnL⟩ : ∃ nL, dkL cx cL kk xx = nL := ⟨_, rfl⟩
          rw [hok, hnxx, hnL] at hnx
          have HNX := Lib.hid hnx
          have HRD := Lib.hid hrd
          have HCALL := Lib.hid (fun (W : World) (hW : DeskR W (.agg #[.slice p1 cx.length f1, .slice p2 cL.length f2]) cx cL) => show Calls Try.prog 24 #[.agg #[.slice p1 cx.length f1, .slice p2 cL.length f2], .agg #[.int .i64 kk, .int .i64 xx]] W (DoneP ok nx nL W) from by
            have := specDeskDo_any _ cx cL kk xx hi2 W hW
            rw [hok, hnxx, hnL] at this; exact this)
          have HSAME := Lib.hid (show ok = false → runD xs L (ds.take (k + 1)) = runD xs L (ds.take k) from fun hf => by
            have hdk := run_desk HDK.out (ds.take k)
            rw [hcx, hcL] at hdk
            rw [hf] at hok hnx
            obtain ⟨e1, e2⟩ := dk_no hok hdk
            rw [hnx, ← hnxx, ← hnL, e1, e2, ← hcx, ← hcL, ← hcn]
            exact Prod.ext rfl (Prod.ext rfl rfl))
          have HKL := Lib.hid hkl
          have HA1 := Lib.hid hA
          have ha0 := hA.cell.1; have ha1 := hA.cell.2
          have HKS := Lib.hid (show ∀ W, Below wr.heap.size wr W → ((W.cell? ⟨A, 0, none⟩ = some (.slice p1 cx.length f1) ∧ W.cell? ⟨A, 1, none⟩ = some (.slice p2 cL.length f2)) ∧ (W.cell? ⟨bk, o + k * 2, none⟩ = some (.int .i64 kk) ∧ W.cell? ⟨bk, o + k * 2 + 1, none⟩ = some (.int .i64 xx))) from
            fun W hW => ⟨(hA.kept hW hA.lt).cell, by have := hcell W (below_onto H.out.bel hW); rw [hkk, hxx] at this; exact this⟩)
          clear hrd hcell hcx hcL hkk hxx hok hnxx hnL hcn hnx hi1 hi2 hA hkl
          go_upto_region 8 with fail
          go_cut [9, 10] (fun s1 s2 wx => CutV wr nx nL ok s1 s2 wx)
          case first =>
            have HB6 := Lib.hid (Below.refl wr.heap.size wr)
            go_region_held3 (fun W => (W.cell? ⟨A, 0, none⟩ = some (.slice p1 cx.length f1) ∧ W.cell? ⟨A, 1, none⟩ = some (.slice p2 cL.length f2)) ∧ (W.cell? ⟨bk, o + k * 2, none⟩ = some (.int .i64 kk) ∧ W.cell? ⟨bk, o + k * 2 + 1, none⟩ = some (.int .i64 xx))) (first | exact HKS.out _ HB6.out | exact HKS.out _ HB6.out.drew | exact HKS.out _ (HB6.out.alloc HB6.out.size _) | exact HKS.out _ (HB6.out.alloc HB6.out.size _).drew | exact HKS.out _ ((HB6.out.setCell (p := ⟨_, 0, none⟩) (Nat.le_refl _) _).setCell (p := ⟨_, 1, none⟩) (Nat.le_refl _) _) | go_keep)
              (first | (go_at_call 24; refine (HCALL.out _ (HRD.out.kept (by first | with_reducible exact HB6.out | with_reducible exact HB6.out.drew | with_reducible exact HB6.out.alloc HB6.out.size _ | with_reducible exact (HB6.out.alloc HB6.out.size _).drew))).mono ?_; rintro e w9 ⟨v3, v4, rfl, hp⟩; have hg9 := hp.gives; obtain ⟨z1, z2, rfl⟩ := hg9.one; obtain ⟨z3, z4, rfl⟩ := hg9.two; (try (have HZB : Hid (Blk2 w9 wr.heap.size 26 (.slice none 0 0) (.slice none 0 0)) := Lib.hid (by with_reducible exact blk2_new_dr hg9.below); have HZL := Lib.hid (alloc_lt wr (.cells #[.slice none 0 0, .slice none 0 0] 26)); have hx0 := HZB.out.cell.1; have hx1 := HZB.out.cell.2; have hx2 := HZB.out.frozen 0; have hx3 := HZB.out.frozen 1)); have HG9 := Lib.hid hg9; have HZ := Lib.hid (below_onto (show Below wr.heap.size wr _ from (by first | with_reducible exact HB6.out | with_reducible exact HB6.out.drew | with_reducible exact HB6.out.alloc HB6.out.size _ | with_reducible exact (HB6.out.alloc HB6.out.size _).drew)) hg9.below); clear HB6; have HB6 := HZ; clear HZ; clear hp hg9))
            all_goals
              go_wp2_with fail
              go_meet
              first
                | exact cutV_last HG9.out HB6.out (Nat.le_refl _)
                | exact cutV_set HG9.out HZB.out HZL.out HB6.out (Nat.le_refl _)
          case rest =>
          obtain ⟨xb, T9, v3, v4, rs', rfl, rfl, hv9, hr9, ht9, hb9⟩ := hcut
          obtain ⟨p3, f3, rfl⟩ := hv9.g.now.slice
          obtain ⟨p4, f4, hp4⟩ := hv9.g.past.seq.slice
          have hrl9 : (rs'.map Fr.v).length = nL.length := by rw [← hr9, List.length_map, List.length_map]
          rw [hrl9] at hp4
          subst hp4
          have hA6 := HA1.out.kept hb9 HA1.out.lt
          have hx0 := hA6.cell.1; have hx1 := hA6.cell.2; have hx2 := hA6.frozen 0; have hx3 := hA6.frozen 1
          have hy0 := hv9.blk.cell.1; have hy1 := hv9.blk.cell.2
          have hne : ¬ xb = A := fun e => by have := hv9.lo; have := HA1.out.lt; omega
          have hne2 : ¬ A = xb := fun e => hne e.symm
          have HV9 := Lib.hid hv9; have HR9 := Lib.hid hr9; have HT9 := Lib.hid ht9; have HB9 := Lib.hid hb9
          clear hv9 hr9 ht9 hb9 hrl9 hA6 ha0 ha1 hq0 hq1
          cases ok with
          | true =>
            have hm2 : (runD xs L (ds.take (k + 1))).2.2 = m + 1 := by rw [HNX.out]; rfl
            have HNS := Lib.hid (H.out.put (by rw [HNX.out]; exact HV9.out) (by rw [HNX.out]; exact HR9.out) HT9.out HB9.out hm2)
            clear hm2
            go_wp2_with fail
            go_roundw
            case rel => exact ⟨k + 1, m + 1, _, _, rs', by omega, by go_num, by go_num, HNS⟩
            case measure => simp [intOf]; omega
          | false =>
            have HNS := Lib.hid (H.out.keep HB9.out (HSAME.out rfl))
            go_wp2_with fail
            go_roundw
            case rel => exact ⟨k + 1, m, _, _, rs, by omega, by go_num, by go_num, HNS⟩
            case measure => simp [intOf]; omega
        · have hki : ¬ (k : Int) < (n : Int) := by omega
          obtain ⟨hdone, hdn⟩ := H.out.done (show ds.length ≤ k by rw [HN.out]; omega)
          rw [← HE1.out, ← HE2.out] at hdone
          rw [← HE3.out] at hdn
          have HDONE := Lib.hid hdone
          have hkn : k = n := by omega
          have hR := H.out.r
          have ha0 := hA.cell.1; have ha1 := hA.cell.2
          have hx0 := hR.cell.1; have hx1 := hR.cell.2; have hx2 := hR.frozen 0; have hx3 := hR.frozen 1
          have HR := Lib.hid hR
          have HDN := Lib.hid hdn
          clear hdone hR hrd hcx hcL hA hdn
          subst hkn
          go_wp2_with fail
          refine bodyPost_ret (results_desk rfl _ _ (w.heap.size + 1) ((HR.out.set0 (.slice p1 cx.length f1)).set1 (.slice p2 cL.length f2)) rfl rfl (by kernel_rfl)) rfl ?_
          rw [HDN.out]
          exact ⟨_, _, rfl, HDONE.out⟩
    · have hd40 : decide ((40 : Int) < (n : Int)) = true := decide_eq_true (by omega)
      obtain ⟨e1, e2, e3⟩ := dr_no (show drB xs L ds = false by unfold drB; rw [HN.out, decide_eq_false h40, Bool.and_false])
      rw [e1, e2, e3]
      clear hdk e1 e2 e3 h40
      go_enter Try.func29, Try.ntmps29
      go_wp2_with fail
      clear hw2
      refine (specDeskOk_any _ xs L _ HDR.out).mono ?_
      rintro e w4 ⟨rfl, hb4⟩
      rw [HDK.out]
      have hR := HBR.out.kept hb4 HBR.out.lt
      have hx0 := hR.cell.1; have hx1 := hR.cell.2; have hx2 := hR.frozen 0; have hx3 := hR.frozen 1
      have HR := Lib.hid hR; have HB := Lib.hid (below_onto HQ.out hb4)
      clear hb4 hR hc0 hc1
      go_wp2_with fail
      refine bodyPost_ret (results_desk rfl _ _ (w.heap.size + 1) ((HR.out.set0 (.slice none 0 0)).set1 (.slice none 0 0)) rfl rfl (by kernel_rfl)) rfl ?_
      exact ⟨_, _, rfl, noDesk_gives ((HB.out.setCell (p := ⟨w.heap.size + 1, 0, none⟩) (show w.heap.size ≤ w.heap.size + 1 by omega) _).setCell (p := ⟨w.heap.size + 1, 1, none⟩) (show w.heap.size ≤ w.heap.size + 1 by omega) _)⟩
end Go.Proofs.Ytndcnfbncepihaa

namespace Go.Proofs.Ytndcnfbncepihaa
set_option linter.unusedVariables false
set_option linter.unusedSimpArgs false
open Go.RowKit Go.Maps

/-- a desk's measure -/
def SzDEnd2 (xs : List Int) (L : List (List Int)) (w : World) (e : Ending) (w' : World) : Prop :=
  (∃ r : Int, e = .returned (.int .i64 r) ∧ (r = -1 ∨ ∃ m : Nat, r = m ∧ m ≤ 1048576 ∧ xs.length ≤ 1048576 ∧ L.length ≤ 1048576 ∧ ∀ l ∈ L, l.length ≤ 1048576)) ∧ Below w.heap.size w w'

set_option maxRecDepth 100000 in
set_option maxHeartbeats 1600000 in
theorem szDesk2_any (d : Value) (xs : List Int) (L : List (List Int)) (w : World) (h : DeskR w d xs L) :
    Calls Try.prog 30 #[d, .int .i64 1048576] w (SzDEnd2 xs L w) := by
  obtain ⟨a, c, b, c2, rfl, hi, hn⟩ := h.parts
  have h63 := hi.1.1
  have hal := alloc_below w (.cells #[.slice a xs.length c, .slice b L.length c2] 48)
  have hblk := Blk2.new w 48 (.slice a xs.length c) (.slice b L.length c2)
  have HN := Lib.hid (hn.kept hal); have HAL := Lib.hid hal; have HBL := Lib.hid hblk
  clear h hi hn hal hblk
  by_cases hs : xs.length ≤ 1048576
  · go_enter Try.func30, Try.ntmps30
    go_wp2_with fail
    refine (szIntS_any a xs.length c h63 1048576 (Nat.le_refl _) _).mono ?_
    rintro e w1 ⟨rfl, rfl⟩
    rw [if_pos hs]
    obtain ⟨m, hm⟩ : ∃ m : Nat, 1048576 - xs.length = m := ⟨_, rfl⟩
    have hmk : m ≤ 1048576 := by omega
    have hge : decide ((m : Int) < 0) = false := decide_eq_false (by omega)
    rw [hm]
    clear hm
    have hc1 := HBL.out.cell.2
    go_wp2_with fail
    refine (szNest_any b L c2 m hmk _ HN.out).mono ?_
    rintro e w2 ⟨r, rfl, hr, hb⟩
    have HB := Lib.hid (below_onto HAL.out hb)
    clear hb hc1 hge
    rcases hr with rfl | ⟨p, rfl, hp, hLk, hlk⟩
    · go_wp2_with fail
      go_ret
      exact ⟨⟨_, rfl, .inl rfl⟩, HB.out⟩
    · have hge : decide ((p : Int) < 0) = false := decide_eq_false (by omega)
      have HLK := Lib.hid hlk
      clear hlk
      go_wp2_with fail
      go_ret
      exact ⟨⟨_, rfl, .inr ⟨p, rfl, by omega, hs, by omega, fun l hl => Nat.le_trans (HLK.out l hl) hmk⟩⟩, HB.out⟩
  · go_enter Try.func30, Try.ntmps30
    go_wp2_with fail
    refine (szIntS_any a xs.length c h63 1048576 (Nat.le_refl _) _).mono ?_
    rintro e w1 ⟨rfl, rfl⟩
    rw [if_neg hs]
    go_wp2_with fail
    go_ret
    exact ⟨⟨_, rfl, .inl rfl⟩, HAL.out⟩

theorem szDq (a : Option Addr) (n cap m : Nat) (hm : m ≤ 1048576) (v : Int) (hn : n ≤ 9223372036854775807) (hv : (if (m : Int) < n then (-1 : Int) else m - n) = v) (w : World) :
    Calls Try.prog 39 #[.slice a n cap, .int .i64 m] w fun e w' => e = .returned (.int .i64 v) ∧ w = w' := by
  subst hv; exact szDeedS_any a n cap m (by omega) hn w
theorem toDq (a : Option Addr) (ds : List (Int × Int)) (n : Nat) (cap : Nat) (hd : ds.length = n) (hn : n ≤ 1048576) (w : World) (h : Dds w a ds) :
    Calls Try.prog 40 #[.slice a n cap] w fun e w' => e = .returned (.slice (some ⟨w.heap.size, 0, none⟩) n n) ∧ Below w.heap.size w w' ∧ Dds w' (some ⟨w.heap.size, 0, none⟩) ds ∧ ∃ F, Rw w' w.heap.size 38 (n * 2) (n * 2) F := by
  subst hd
  refine (toDeedS_any a ds.length cap (fstF ds) (sndF ds) hn w h.prq).mono ?_
  rintro e w' ⟨rfl, h1, h2⟩
  exact ⟨rfl, h1, (CopiedQ.prs h2 h.prq.1).dds, _, h2⟩
theorem okD_run (xs : List Int) (L : List (List Int)) (ds : List (Int × Int)) : okD (drX xs L ds) (drL xs L ds) := by
  cases h : drB xs L ds with
  | false => obtain ⟨e1, e2, _⟩ := dr_no h; rw [e1, e2]; exact okD_nil
  | true =>
    obtain ⟨e1, e2, _⟩ := dr_yes h
    rw [e1, e2]
    unfold drB at h
    rw [Bool.and_eq_true] at h
    exact run_okD h.1 ds

set_option maxRecDepth 100000 in
set_option maxHeartbeats 12800000 in
theorem exactDeskRun (d : Value) (xs : List Int) (L : List (List Int)) (a1 : Option Addr) (ds : List (Int × Int)) (cd : Nat) (w : World) (h : DeskR w d xs L) (hds : Dds w a1 ds) :
    Calls Try.prog 10 #[d, .slice a1 ds.length cd] w (TrueEnd w) := by
  obtain ⟨a, c, b, c2, rfl, hi, hn⟩ := h.parts
  have HX := Lib.hid (ints_I64s hi); have HLI := Lib.hid hn.i64
  have hn63 := hds.1.1
  obtain ⟨ys, hys⟩ : ∃ ys, drX xs L ds = ys := ⟨_, rfl⟩
  obtain ⟨M, hM⟩ : ∃ M, drL xs L ds = M := ⟨_, rfl⟩
  obtain ⟨rN, hrN⟩ : ∃ rN, drN xs L ds = rN := ⟨_, rfl⟩
  obtain ⟨n, hnn⟩ : ∃ n, ds.length = n := ⟨_, rfl⟩
  have HNN := Lib.hid hnn
  have HOK := Lib.hid (show okD ys M by rw [← hys, ← hM]; exact okD_run xs L ds)
  have HYL := Lib.hid (show ys.length ≤ 1048576 by have := HOK.out.1.1; omega)
  have HML := Lib.hid (show M.length ≤ 1048576 by have := HOK.out.2.1; omega)
  have HMM := Lib.hid (show ∀ l ∈ M, l.length ≤ 1048576 from fun l hl => by have := (HOK.out.2.2 l hl).1; omega)
  have hyl : ys.length ≤ 7 := HOK.out.1.1
  have HSD := Lib.hid (fun (W : World) (d : Value) (a : Option Addr) (c : Nat) (hd : DeskR W d xs L) (hds : Dds W a ds) => (show Calls Try.prog 29 #[d, .slice a n c] W (RunEnd ys M rN W) from by
    have := specDeskRun_any d xs L a ds c W hd hds
    rw [hys, hM, hrN, hnn] at this; exact this))
  have HID := Lib.hid (fun (W : World) (d : Value) (a : Option Addr) (c : Nat) (hd : DeskR W d xs L) (hds : Dds W a ds) => (show Calls Try.prog 28 #[d, .slice a n c] W (RunEnd ys M rN W) from by
    have := DeskRun_any d xs L a ds c W hd hds
    rw [hys, hM, hrN, hnn] at this; exact this))
  have hfne : ((rN : Int) != (rN : Int)) = false := by simp
  have q1 := alloc_below w (.cells #[.slice a xs.length c, .slice b L.length c2] 48)
  have b1 := (Blk2.new w 48 (.slice a xs.length c) (.slice b L.length c2))
  have hdr := h.kept q1
  have hdd := hds.kept q1
  have hz := alloc_size w (.cells #[.slice a xs.length c, .slice b L.length c2] 48)
  obtain ⟨w0, hw0⟩ : ∃ w0, w.alloc (.cells #[.slice a xs.length c, .slice b L.length c2] 48) = w0 := ⟨_, rfl⟩
  rw [hw0] at b1 q1 hdr hz hdd
  have HDR := Lib.hid hdr; have HBL := Lib.hid b1; have HQ := Lib.hid q1; have HZ0 := Lib.hid hz; have HDD := Lib.hid hdd
  have hd0 := b1.cell.1; have hd1 := b1.cell.2
  rw [hnn] at hn63 ⊢
  clear h hi hn hys hM hrN q1 b1 hdr hz hds hdd hnn
  go_enter Try.func10, Try.ntmps10
  go_wp2_with fail
  clear hw0
  refine (szDesk2_any _ xs L _ HDR.out).mono ?_
  rintro e w1 ⟨⟨r, rfl, hr⟩, hb⟩
  replace HBL := Lib.hid (HBL.out.kept hb HBL.out.lt)
  replace HDR := Lib.hid (HDR.out.kept hb); replace HQ := Lib.hid (below_onto HQ.out hb); replace HDD := Lib.hid (HDD.out.kept hb)
  have HZ1 := Lib.hid (show w.heap.size + 1 ≤ w1.heap.size by have := hb.size; have := HZ0.out; omega)
  clear hb hd0 hd1 HZ0
  rcases hr with rfl | ⟨m0, rfl, hm0, hx, hL, hl⟩
  · go_wp2_with fail
    go_ret
    exact ⟨rfl, HQ.out⟩
  have hge : decide ((m0 : Int) < 0) = false := decide_eq_false (by omega)
  have HL := Lib.hid hl
  clear hl
  by_cases hnl : (m0 : Int) < n
  · have HV := Lib.hid (show (if (m0 : Int) < n then (-1 : Int) else m0 - n) = -1 by rw [if_pos hnl])
    clear hnl
    go_wp2_with fail
    refine (szDq a1 n cd m0 hm0 _ hn63 HV.out _).mono ?_
    rintro e w2 ⟨rfl, rfl⟩
    go_wp2_with fail
    go_ret
    exact ⟨rfl, HQ.out⟩
  obtain ⟨z0, hz0⟩ : ∃ z0 : Int, (m0 : Int) - n = z0 := ⟨_, rfl⟩
  have HV := Lib.hid (show (if (m0 : Int) < n then (-1 : Int) else m0 - n) = z0 by rw [if_neg hnl, hz0])
  have hzz : decide (z0 < 0) = false := decide_eq_false (by omega)
  have HN1 := Lib.hid (show n ≤ 1048576 by omega)
  clear hnl hz0
  go_wp2_with fail
  refine (szDq a1 n cd m0 hm0 _ hn63 HV.out _).mono ?_
  rintro e w2 ⟨rfl, rfl⟩
  have HB5 := Lib.hid (Below.refl w1.heap.size w1)
  have HWB := Lib.hid (Nat.le_refl w1.heap.size)
  have hd0 := HBL.out.cell.1; have hd1 := HBL.out.cell.2
  clear HV
  go_wp2_with fail
  refine (toDesk_any _ xs L hx hL HL.out _ (HDR.out.kept HB5.out)).mono ?_
  rintro e wa0 ⟨v1, v2, rfl, hg⟩
  obtain ⟨hra, hba, ⟨y10, y20, rfl⟩, ⟨y30, y40, rfl⟩⟩ := hg.read HX.out HLI.out
  have HRA := Lib.hid hra; have HBA := Lib.hid hba
  clear hg hra hba
  go_wp2_with fail
  refine (toDq a1 ds n cd HNN.out HN1.out _ (HDD.out.kept (below_onto HB5.out HBA.out))).mono ?_
  rintro e wb0 ⟨rfl, hbb, hdb, _⟩
  replace HRA := Lib.hid (HRA.out.kept hbb); replace HBA := Lib.hid (below_onto HBA.out hbb)
  have HDB := Lib.hid hdb
  obtain ⟨xb0, hxb⟩ : ∃ xb, wa0.heap.size = xb := ⟨_, rfl⟩
  rw [hxb] at HDB ⊢
  clear hbb hdb hxb
  go_wp2_with fail
  refine (HSD.out _ _ _ _ HRA.out HDB.out).mono ?_
  rintro e wd0 ⟨v1, v2, rfl, hg⟩
  obtain ⟨p10, e10, rfl⟩ := hg.one
  obtain ⟨p20, e20, rfl⟩ := hg.two
  obtain ⟨r0, hv0, hr0⟩ := deskV_of hg
  have hal := alloc_below wd0 (.cells #[.slice p10 ys.length e10, .slice p20 M.length e20] 26)
  have hb := below_onto (below_onto HBA.out hg.below) hal
  have hT := alloc_size wd0 (.cells #[.slice p10 ys.length e10, .slice p20 M.length e20] 26)
  have hbase := (below_onto HB5.out HBA.out).size
  replace HB5 := Lib.hid (below_onto HB5.out hb)
  obtain ⟨w5, hw5⟩ : ∃ w5, wd0.alloc (.cells #[.slice p10 ys.length e10, .slice p20 M.length e20] 26) = w5 := ⟨_, rfl⟩
  obtain ⟨b0, hb0⟩ : ∃ b0, wd0.heap.size = b0 := ⟨_, rfl⟩
  rw [hw5, hb0] at hv0
  rw [hw5, hb0] at hT
  rw [hw5] at HB5
  have HV5 := Lib.hid (hv0.base hbase); have HR0 := Lib.hid hr0
  have HT0 := Lib.hid hT
  have hd0' := (HBL.out.kept HB5.out HBL.out.lt).cell.1; have hd1' := (HBL.out.kept HB5.out HBL.out.lt).cell.2
  clear hg hv0 hr0 hal hb hT hbase HRA HBA HDB hd0 hd1
  go_wp2_with fail
  clear hw5 hb0
  refine (toDesk_any _ xs L hx hL HL.out _ (HDR.out.kept HB5.out)).mono ?_
  rintro e w6 ⟨v1, v2, rfl, hg⟩
  obtain ⟨f1, f2, rfl⟩ := hg.one
  obtain ⟨f3, f4, rfl⟩ := hg.two
  obtain ⟨rx, hvx, hrx⟩ := deskV_of hg
  have hal := alloc_below w6 (.cells #[.slice f1 xs.length f2, .slice f3 L.length f4] 26)
  have hb := below_onto hg.below hal
  have hT := alloc_size w6 (.cells #[.slice f1 xs.length f2, .slice f3 L.length f4] 26)
  replace HV5 := Lib.hid (HV5.out.kept hb); replace HB5 := Lib.hid (below_onto HB5.out hb)
  obtain ⟨w7, hw7⟩ : ∃ w7, w6.alloc (.cells #[.slice f1 xs.length f2, .slice f3 L.length f4] 26) = w7 := ⟨_, rfl⟩
  obtain ⟨bx, hbx⟩ : ∃ bx, w6.heap.size = bx := ⟨_, rfl⟩
  obtain ⟨Bx, hBx⟩ : ∃ Bx, w5.heap.size = Bx := ⟨_, rfl⟩
  rw [hw7, hbx, hBx] at hvx
  rw [hw7, hbx] at hT
  rw [hBx] at HT0
  rw [hw7] at HV5 HB5
  have HXV := Lib.hid hvx; have HRX := Lib.hid hrx; have HTX := Lib.hid hT
  clear hg hvx hrx hal hb hT hBx hd0' hd1'
  go_wp2_with fail
  clear hw7 hbx
  refine (toDq a1 ds n cd HNN.out HN1.out _ (HDD.out.kept HB5.out)).mono ?_
  rintro e w8 ⟨rfl, hb, hd8, F8, hr8⟩
  obtain ⟨xd, hxd⟩ : ∃ xd, w7.heap.size = xd := ⟨_, rfl⟩
  rw [hxd] at hd8 hr8 HTX ⊢
  replace HV5 := Lib.hid (HV5.out.kept hb); replace HB5 := Lib.hid (below_onto HB5.out hb); replace HXV := Lib.hid (HXV.out.kept hb)
  have HDX := Lib.hid hd8; have HRW := Lib.hid hr8
  have HXL := Lib.hid (hr8.ltq)
  have HXR := Lib.hid (HXV.out.readX HRX.out HX.out HLI.out)
  have hx0 := HXV.out.blk.cell.1; have hx1 := HXV.out.blk.cell.2
  clear hb hd8 hr8 hxd
  go_wp2_with fail
  refine (HID.out _ _ _ _ HXR.out HDX.out).mono ?_
  rintro e w9 ⟨v1, v2, rfl, hg⟩
  obtain ⟨q1, g1, rfl⟩ := hg.one
  obtain ⟨q2, g2, rfl⟩ := hg.two
  obtain ⟨r1, hv1, hr1⟩ := deskV_of hg
  have hal := alloc_below w9 (.cells #[.slice q1 ys.length g1, .slice q2 M.length g2] 26)
  have hb := below_onto hg.below hal
  replace HV5 := Lib.hid (HV5.out.kept hb); replace HB5 := Lib.hid (below_onto HB5.out hb); replace HXV := Lib.hid (HXV.out.kept hb); replace HDX := Lib.hid (HDX.out.kept hb)
  replace HRW := Lib.hid (HRW.out.atq (hb.block _ HXL.out))
  obtain ⟨w10, hw10⟩ : ∃ w10, w9.alloc (.cells #[.slice q1 ys.length g1, .slice q2 M.length g2] 26) = w10 := ⟨_, rfl⟩
  obtain ⟨b1, hb1⟩ : ∃ b1, w9.heap.size = b1 := ⟨_, rfl⟩
  obtain ⟨B1, hB1⟩ : ∃ B1, w8.heap.size = B1 := ⟨_, rfl⟩
  obtain ⟨T1, hT1⟩ : ∃ T1, b1 + 1 = T1 := ⟨_, rfl⟩
  rw [hw10, hb1, hB1, hT1] at hv1
  rw [hw10] at HV5 HB5 HXV HDX HRW
  rw [hB1] at HXL
  have HG := Lib.hid hv1; have HR1 := Lib.hid hr1
  clear hg hv1 hr1 hal hb hB1 hx0 hx1 HXR hT1
  have hc0 := HV5.out.blk.cell.1; have hc1 := HV5.out.blk.cell.2; have hd0 := HG.out.blk.cell.1; have hd1 := HG.out.blk.cell.2
  go_wp2_with fail
  clear hw10 hb1
  refine (eqDesk_any _ _ ys M HYL.out HML.out HMM.out _ (HG.out.read HR1.out HOK.out) (HV5.out.read HR0.out HOK.out)).mono ?_
  rintro e w11 ⟨rfl, hb⟩
  replace HV5 := Lib.hid (HV5.out.kept hb); replace HG := Lib.hid (HG.out.kept hb); replace HXV := Lib.hid (HXV.out.kept hb); replace HB5 := Lib.hid (below_onto HB5.out hb); replace HDX := Lib.hid (HDX.out.kept hb)
  replace HRW := Lib.hid (HRW.out.atq (hb.block _ HRW.out.ltq))
  clear hb hc0 hc1 hd0 hd1
  have HXR := Lib.hid (HXV.out.readX HRX.out HX.out HLI.out)
  have HB6 := Lib.hid (Below.refl w11.heap.size w11)
  have HKS := Lib.hid (show ∀ W, Below w11.heap.size w11 W → ((W.cell? ⟨bx, 0, none⟩ = some (.slice f1 xs.length f2) ∧ W.cell? ⟨bx, 1, none⟩ = some (.slice f3 L.length f4)) ∧ (W.cell? ⟨w.heap.size, 0, none⟩ = some (.slice a xs.length c) ∧ W.cell? ⟨w.heap.size, 1, none⟩ = some (.slice b L.length c2))) from
    fun W hW => ⟨(HXV.out.kept hW).blk.cell, (HBL.out.kept (below_onto HB5.out hW) HBL.out.lt).cell⟩)
  go_wp2_with fail
  go_region_held3 (fun W => ((W.cell? ⟨bx, 0, none⟩ = some (.slice f1 xs.length f2) ∧ W.cell? ⟨bx, 1, none⟩ = some (.slice f3 L.length f4)) ∧ (W.cell? ⟨w.heap.size, 0, none⟩ = some (.slice a xs.length c) ∧ W.cell? ⟨w.heap.size, 1, none⟩ = some (.slice b L.length c2)))) (first | exact HKS.out _ HB6.out | exact HKS.out _ HB6.out.drew | exact HKS.out _ (below_drewN HB6.out _) | go_keep)
    (first | (go_at_call 31; refine (toDesk_any _ xs L hx hL HL.out _ (HDR.out.kept (below_onto HB5.out (by first | exact HB6.out | exact HB6.out.drew | exact below_drewN HB6.out _)))).mono ?_; rintro e w17 ⟨v1, v2, rfl, hg⟩; obtain ⟨hr7, hb7, ⟨y1, y2, rfl⟩, ⟨y3, y4, rfl⟩⟩ := hg.read HX.out HLI.out; have HR7 := Lib.hid hr7; have HZ := Lib.hid (show Below w11.heap.size w11 w17 from (by first | exact hb7 | exact below_onto HB6.out.drew hb7 | exact below_onto (below_drewN HB6.out _) hb7)); clear HB6; have HB6 := HZ; clear HZ hg hb7 hr7) | (go_at_call 32; refine (eqDesk_any _ _ xs L hx hL HL.out _ (HXR.out.kept HB6.out) HR7.out).mono ?_; rintro e w18 ⟨rfl, hb8⟩; have HZ := Lib.hid (HB6.out.trans (hb8.mono HB6.out.size)); clear HB6; have HB6 := HZ; clear HZ hb8))
  replace HV5 := Lib.hid (HV5.out.kept HB6.out); replace HG := Lib.hid (HG.out.kept HB6.out); replace HXV := Lib.hid (HXV.out.kept HB6.out); replace HB5 := Lib.hid (below_onto HB5.out HB6.out); replace HDX := Lib.hid (HDX.out.kept HB6.out)
  replace HRW := Lib.hid (HRW.out.atq (HB6.out.block _ HRW.out.ltq))
  clear HKS HXR HB6 HR7
  go_wp2_with fail
  refine (toDq a1 ds n cd HNN.out HN1.out _ (HDD.out.kept HB5.out)).mono ?_
  rintro e w19 ⟨rfl, hb, hd9, _⟩
  replace HV5 := Lib.hid (HV5.out.kept hb); replace HG := Lib.hid (HG.out.kept hb); replace HXV := Lib.hid (HXV.out.kept hb); replace HB5 := Lib.hid (below_onto HB5.out hb); replace HDX := Lib.hid (HDX.out.kept hb)
  replace HRW := Lib.hid (HRW.out.atq (hb.block _ HRW.out.ltq))
  have HD9 := Lib.hid hd9
  have HEQ := Lib.hid (fun (a1 a2 : Option Addr) (c1 c2 : Nat) (W : World) (h1 : Dds W a1 ds) (h2 : Dds W a2 ds) => (show Calls Try.prog 41 #[.slice a1 n c1, .slice a2 n c2] W _ from by
    have := eqDeedS_any a1 a2 ds.length c1 c2 (fstF ds) (sndF ds) (by rw [HNN.out]; exact HN1.out) W h1.prq h2.prq
    rw [HNN.out] at this; exact this))
  clear hb hd9
  go_wp2_with fail
  refine (HEQ.out _ _ _ _ _ HDX.out HD9.out).mono ?_
  rintro e w20 ⟨rfl, hb⟩
  replace HV5 := Lib.hid (HV5.out.kept hb); replace HG := Lib.hid (HG.out.kept hb); replace HXV := Lib.hid (HXV.out.kept hb); replace HB5 := Lib.hid (below_onto HB5.out hb)
  replace HRW := Lib.hid (HRW.out.atq (hb.block _ HRW.out.ltq))
  have hd0 := HXV.out.blk.cell.1; have hd1 := HXV.out.blk.cell.2
  obtain ⟨mx, hmx⟩ : ∃ mx, 1 + xs.length + totF rx = mx := ⟨_, rfl⟩
  have hmxb : mx + n * 2 ≤ 4398046511104 := by have h1 := tot_big HRX.out hL HL.out; have h2 := HN1.out; omega
  have hmxc : mx ≤ 4398046511104 := by omega
  have HMX := Lib.hid hmx
  clear hmx hb HD9 HDX HEQ
  go_wp2_with fail
  refine (markDesk_any _ _ Bx xs rx 1 mx HMX.out hmxc _ HXV.out.g).mono ?_
  rintro e w21 hmk
  have hmk1 := hmk.1
  subst hmk1
  have hu := HXV.out.markU hmk
  replace HV5 := Lib.hid (HV5.out.upon hu (fun q h1 h2 h3 => by have h4 := HT0.out; omega))
  replace HG := Lib.hid (HG.out.upon hu (fun q h1 h2 h3 => by have h4 := HTX.out; have h5 := HXL.out; omega))
  replace HRW := Lib.hid (HRW.out.atq (hu.block _ HRW.out.ltq (fun h3 => by have h4 := HTX.out; omega)))
  replace HB5 := Lib.hid (HB5.out.trans (hu.below (B := w1.heap.size) (fun q h3 => by have h4 := HT0.out; have h5 := HV5.out.lo; have h7 := HV5.out.hi.1; omega) HB5.out.size))
  have HXB := Lib.hid (show w1.heap.size ≤ Bx ∧ Bx ≤ bx from ⟨by have h4 := HT0.out; have h5 := HV5.out.lo; have h7 := HV5.out.hi.1; omega, HXV.out.lo⟩)
  clear hu hmk hd0 hd1 HXV
  go_wp2_with fail
  refine (markDeeds_any xd (n * 2) n n mx 38 F8 hmxb _ HRW.out).mono ?_
  rintro e w22 ⟨rfl, ho⟩
  obtain ⟨my, hmy⟩ : ∃ my : Int, (mx : Int) + n * 2 = my := ⟨_, rfl⟩
  have hmyn : decide (my < 0) = false := decide_eq_false (by omega)
  have hu := Upon.of_only ho
  replace HV5 := Lib.hid (HV5.out.upon hu (fun q h1 h2 h3 => by have h4 := HT0.out; have h5 := HTX.out; have h6 := HXB.out; omega))
  replace HG := Lib.hid (HG.out.upon hu (fun q h1 h2 h3 => by have h5 := HXL.out; omega))
  replace HB5 := Lib.hid (HB5.out.trans (hu.below (B := w1.heap.size) (fun q h3 => by have h5 := HTX.out; have h6 := HXB.out; omega) HB5.out.size))
  have HSEP := Lib.hid (show b0 + 1 ≤ B1 by have h4 := HT0.out; have h5 := HTX.out; have h6 := HXB.out; have h7 := HXL.out; omega)
  rw [hmy]
  clear hu ho hmy HRW hmxb
  have hc0 := HV5.out.blk.cell.1; have hc1 := HV5.out.blk.cell.2; have hd0 := HG.out.blk.cell.1; have hd1 := HG.out.blk.cell.2
  go_wp2_with fail
  refine (eqDesk_any _ _ ys M HYL.out HML.out HMM.out _ (HG.out.read HR1.out HOK.out) (HV5.out.read HR0.out HOK.out)).mono ?_
  rintro e w30 ⟨rfl, hb⟩
  replace HV5 := Lib.hid (HV5.out.kept hb); replace HG := Lib.hid (HG.out.kept hb); replace HB5 := Lib.hid (below_onto HB5.out hb)
  clear hb hc0 hc1 hd0 hd1
  have hd0 := HG.out.blk.cell.1; have hd1 := HG.out.blk.cell.2
  obtain ⟨m, hm⟩ : ∃ m, 1 + ys.length + totF r1 = m := ⟨_, rfl⟩
  have hmb : m ≤ 4398046511104 := by have h1 := HOK.out.tot HR1.out; have h2 := HOK.out.1.1; omega
  have hmn : decide ((m : Int) < 0) = false := decide_eq_false (by omega)
  have hmm : ((m : Int) != (m : Int)) = false := by simp
  have HM := Lib.hid hm
  have HTT := Lib.hid (show 1 + ys.length + ((r1.map Fr.xs).map List.length).sum = m from hm)
  clear hm
  go_wp2_with fail
  refine (markDesk_any _ _ B1 ys r1 1 m HM.out hmb _ HG.out.g).mono ?_
  rintro e w31 hmk
  have hmk1 := hmk.1
  subst hmk1
  have hu := HG.out.markU hmk
  replace HG := Lib.hid (HG.out.mark hmk)
  replace HV5 := Lib.hid (HV5.out.upon hu (fun q h1 h2 h3 => by have h4 := HSEP.out; omega))
  replace HB5 := Lib.hid (HB5.out.trans (hu.below (B := w1.heap.size) (fun q h3 => by have h4 := HSEP.out; have h5 := HV5.out.lo; have h6 := HWB.out; have h7 := HV5.out.hi.1; omega) HB5.out.size))
  have HRD := Lib.hid (HG.out.g.marked HM.out hmb)
  clear hu hmk hd0 hd1
  have hd0 := HG.out.blk.cell.1; have hd1 := HG.out.blk.cell.2
  go_wp2_with fail
  refine (heldDesk_any _ ys.length ((r1.map Fr.xs).map List.length) 1 m HTT.out hmb _ HRD.out).mono ?_
  rintro e w32 ⟨rfl, hb⟩
  replace HV5 := Lib.hid (HV5.out.kept hb); replace HG := Lib.hid (HG.out.kept hb); replace HB5 := Lib.hid (below_onto HB5.out hb); replace HRD := Lib.hid (HRD.out.kept hb)
  clear hb hd0 hd1
  have hd0 := (HBL.out.kept HB5.out HBL.out.lt).cell.1; have hd1 := (HBL.out.kept HB5.out HBL.out.lt).cell.2
  go_wp2_with fail
  refine (toDesk_any _ xs L hx hL HL.out _ (HDR.out.kept HB5.out)).mono ?_
  rintro e wa2 ⟨v1, v2, rfl, hg⟩
  obtain ⟨hra, hba, ⟨y12, y22, rfl⟩, ⟨y32, y42, rfl⟩⟩ := hg.read HX.out HLI.out
  have HRA := Lib.hid hra; have HBA := Lib.hid hba
  clear hg hra hba
  go_wp2_with fail
  refine (toDq a1 ds n cd HNN.out HN1.out _ (HDD.out.kept (below_onto HB5.out HBA.out))).mono ?_
  rintro e wb2 ⟨rfl, hbb, hdb, _⟩
  replace HRA := Lib.hid (HRA.out.kept hbb); replace HBA := Lib.hid (below_onto HBA.out hbb)
  have HDB := Lib.hid hdb
  obtain ⟨xb2, hxb⟩ : ∃ xb, wa2.heap.size = xb := ⟨_, rfl⟩
  rw [hxb] at HDB ⊢
  clear hbb hdb hxb
  go_wp2_with fail
  refine (HID.out _ _ _ _ HRA.out HDB.out).mono ?_
  rintro e wd2 ⟨v1, v2, rfl, hg⟩
  obtain ⟨p12, e12, rfl⟩ := hg.one
  obtain ⟨p22, e22, rfl⟩ := hg.two
  obtain ⟨r2, hv2, hr2⟩ := deskV_of hg
  have hal := alloc_below wd2 (.cells #[.slice p12 ys.length e12, .slice p22 M.length e22] 26)
  have hb := below_onto (below_onto HBA.out hg.below) hal
  have hT := alloc_size wd2 (.cells #[.slice p12 ys.length e12, .slice p22 M.length e22] 26)
  replace HV5 := Lib.hid (HV5.out.kept hb); replace HG := Lib.hid (HG.out.kept hb); replace HB5 := Lib.hid (below_onto HB5.out hb); replace HRD := Lib.hid (HRD.out.kept hb)
  have HH := Lib.hid hv2; have HR2 := Lib.hid hr2
  obtain ⟨w26, hw26⟩ : ∃ w26, wd2.alloc (.cells #[.slice p12 ys.length e12, .slice p22 M.length e22] 26) = w26 := ⟨_, rfl⟩
  rw [hw26] at HV5 HG HB5 HRD HH
  clear hg hv2 hr2 hal hb hT HRA HBA HDB hd0 hd1
  have hc0 := HV5.out.blk.cell.1; have hc1 := HV5.out.blk.cell.2; have hd0 := HH.out.blk.cell.1; have hd1 := HH.out.blk.cell.2
  go_wp2_with fail
  refine (eqDesk_any _ _ ys M HYL.out HML.out HMM.out _ (HH.out.read HR2.out HOK.out) (HV5.out.read HR0.out HOK.out)).mono ?_
  rintro e w33 ⟨rfl, hb⟩
  replace HG := Lib.hid (HG.out.kept hb); replace HB5 := Lib.hid (below_onto HB5.out hb); replace HRD := Lib.hid (HRD.out.kept hb)
  clear hb hc0 hc1 hd0 hd1
  have hd0 := HG.out.blk.cell.1; have hd1 := HG.out.blk.cell.2
  go_wp2_with fail
  refine (heldDesk_any _ ys.length ((r1.map Fr.xs).map List.length) 1 m HTT.out hmb _ HRD.out).mono ?_
  rintro e w34 ⟨rfl, hb⟩
  replace HB5 := Lib.hid (below_onto HB5.out hb)
  clear hb hd0 hd1
  go_wp2_with fail
  go_ret
  exact ⟨rfl, below_onto HQ.out HB5.out⟩
end Go.Proofs.Ytndcnfbncepihaa
