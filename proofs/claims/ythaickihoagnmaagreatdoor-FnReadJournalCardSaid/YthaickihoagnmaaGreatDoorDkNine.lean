import Derived.Test.YthaickihoagnmaaGreatDoorDkEight
import Derived.Test.YthaickihoagnmaaGreatDoorTxFour
import Derived.Test.YthaickihoagnmaaGreatDoorDkSix
namespace Go.Proofs.YthaickihoagnmaaGreatDoor
set_option linter.unusedVariables false
set_option linter.unusedSimpArgs false
open Go.RowKit Go.Maps

theorem results_desk_deed {fn : Func} {p u : Tmp} (h : fn.results = #[.cell p 31, .cell u 39]) (tmps : Array Value) (w : World) (B D : Nat) {x y k z : Value} (hB : Blk2 w B 31 x y) (hD : Blk2 w D 39 k z) (hp : tmps.getD p undef = .pointer (some ⟨B, 0, none⟩)) (hu : tmps.getD u undef = .pointer (some ⟨D, 0, none⟩))
    (hi : (Tryz.prog.info? 31).map (·.size) = some 2) (hj : (Tryz.prog.info? 39).map (·.size) = some 2) :
    (results fn tmps).run Tryz.prog w = .ok (.tuple #[.agg #[x, y], .agg #[k, z]]) w := by
  have hp' : tmps[p]?.getD undef = .pointer (some ⟨B, 0, none⟩) := by simpa using hp
  have hu' : tmps[u]?.getD undef = .pointer (some ⟨D, 0, none⟩) := by simpa using hu
  simp [results, h, hp', hu', asAddr, run_loadVar_row w B 31 31 #[x, y] (0, 0) _ hB Tryz.underlying31 rfl hi, run_loadVar_row w D 39 39 #[k, z] (0, 0) _ hD Tryz.underlying39 rfl hj]

/-- a desk and a deed are drawn -/
def DoDr (w : World) (e : Ending) (w' : World) : Prop :=
  ∃ (a : Option Addr) (c : Nat) (b : Option Addr) (c2 : Nat) (xs : List Int) (L : List (List Int)) (k x : Int), e = .returned (.tuple #[.agg #[.slice a xs.length c, .slice b L.length c2], .agg #[.int .i64 k, .int .i64 x]]) ∧ DeskR w' (.agg #[.slice a xs.length c, .slice b L.length c2]) xs L ∧ okD9 xs L ∧ I64 x ∧ Below w.heap.size w w'
/-- it is laid into the results' variables -/
theorem doDr_end {w w1 w7 wz : World} {p1 p2 : Option Addr} {e1 e2 : Nat} {xs : List Int} {rs : List Fr} {k x : Int} (hg : DeskG w7 w1.heap.size (.slice p1 xs.length e1) (.slice p2 rs.length e2) xs rs) (hk : okD9 xs (rs.map Fr.xs)) (hx : I64 x) (hb : Below w.heap.size w w7)
    (hw : w.heap.size + 2 ≤ w1.heap.size) (hz : ∃ q1 q2 q3 q4 : Addr × Value, wz = (((w7.setCell q1.1 q1.2).setCell q2.1 q2.2).setCell q3.1 q3.2).setCell q4.1 q4.2 ∧ ∀ q, q = q1 ∨ q = q2 ∨ q = q3 ∨ q = q4 → q.1.block = w.heap.size ∨ q.1.block = w.heap.size + 1) :
    DoDr w (.returned (.tuple #[.agg #[.slice p1 xs.length e1, .slice p2 rs.length e2], .agg #[.int .i64 k, .int .i64 x]])) wz := by
  obtain ⟨q1, q2, q3, q4, rfl, hq⟩ := hz
  have b1 := hq q1 (.inl rfl); have b2 := hq q2 (.inr (.inl rfl)); have b3 := hq q3 (.inr (.inr (.inl rfl))); have b4 := hq q4 (.inr (.inr (.inr rfl)))
  have hR := hk.read ((((hg.put (p := q1.1) (u := q1.2) (by omega)).put (p := q2.1) (u := q2.2) (by omega)).put (p := q3.1) (u := q3.2) (by omega)).put (p := q4.1) (u := q4.2) (by omega)) rfl
  have hB := (((hb.setCell (p := q1.1) (by omega) q1.2).setCell (p := q2.1) (by omega) q2.2).setCell (p := q3.1) (by omega) q3.2).setCell (p := q4.1) (by omega) q4.2
  have hl : rs.length = (rs.map Fr.xs).length := (List.length_map ..).symm
  rw [hl] at hR ⊢
  exact ⟨p1, e1, p2, e2, xs, rs.map Fr.xs, k, x, rfl, hR, hk, hx, hB⟩
theorem only_new {w w' : World} {rb A : Nat} {t : TypeId} {x y : Value} (h : Blk2 w A t x y) (ho : Only rb w w') (hne : A ≠ rb) : w'.heap[A]? = w.heap[A]? := ho.block A h.lt hne

end Go.Proofs.YthaickihoagnmaaGreatDoor

namespace Go.Proofs.YthaickihoagnmaaGreatDoor
set_option linter.unusedVariables false
set_option linter.unusedSimpArgs false
open Go.RowKit Go.Maps

/-- where deeds lie -/
def DAd (p : Option Addr) (cp n : Nat) : Prop := n ≤ cp ∧ (p = none ∧ cp = 0 ∨ ∃ g, p = some ⟨g, 0, none⟩)
theorem OwnD.slc {w : World} {B : Nat} {v : Value} {ds : List (Int × Int)} (h : OwnD w B v ds) (h64 : I64D ds) (hl : ds.length ≤ 41) :
    ∃ p cp, v = .slice p ds.length cp ∧ DAd p cp ds.length ∧ Dds w p ds ∧ ∀ g, p = some ⟨g, 0, none⟩ → B ≤ g := by
  by_cases h0 : ds.length = 0
  · rcases h.2 with ⟨h1, h2⟩ | ⟨g, cap, cur, hv, hBg, hg, hc, _⟩
    · exact ⟨none, 0, by rw [h0]; exact h1, ⟨by omega, .inl ⟨rfl, rfl⟩⟩, ⟨⟨by omega, h64⟩, .inl h0⟩, fun g e => by cases e⟩
    · exact ⟨some ⟨g, 0, none⟩, cap, hv, ⟨hc, .inr ⟨g, rfl⟩⟩, ⟨⟨by omega, h64⟩, .inl h0⟩, fun g' e => by injection e with e; injection e with e; omega⟩
  · obtain ⟨g, c, rfl, hB, hlt, hc, hr⟩ := h.row (by omega)
    exact ⟨some ⟨g, 0, none⟩, c, rfl, ⟨hc, .inr ⟨g, rfl⟩⟩, ⟨⟨by omega, h64⟩, .inr ⟨g, 0, rfl, hlt, hr⟩⟩, fun g' e => by injection e with e; injection e with e; omega⟩
theorem Dds.put {w : World} {p : Option Addr} {ds : List (Int × Int)} {q : Addr} {u : Value} (h : Dds w p ds) (hp : ∀ g o, p = some ⟨g, o, none⟩ → g ≠ q.block) : Dds (w.setCell q u) p ds := by
  refine ⟨h.1, ?_⟩
  rcases h.2 with h0 | ⟨b, o, e, hl, hr⟩
  · exact .inl h0
  · have hb := set_blk (w := w) (p := q) (v := u) (hp b o e)
    exact .inr ⟨b, o, e, by simp only [World.setCell, Array.size_modify]; exact hl, fun i hi => by
      obtain ⟨h1, h2⟩ := hr i hi
      unfold World.cell? at h1 h2 ⊢
      rw [hb]; exact ⟨h1, h2⟩⟩
theorem made_dds (w : World) : Dds (w.alloc (.cells (madeCells #[.int .i64 0, .int .i64 0] 82) 39)) (some ⟨w.heap.size, 0, none⟩) (List.replicate 41 (0, 0)) := by
  refine ⟨⟨by simp, fun d hd => by rw [List.eq_of_mem_replicate hd]; unfold I64; omega⟩, .inr ⟨w.heap.size, 0, rfl, by rw [alloc_size]; omega, fun i hi => ?_⟩⟩
  have hi' : i < 41 := by simpa using hi
  rw [List.getElem_replicate]
  have hh : (w.alloc (.cells (madeCells #[.int .i64 0, .int .i64 0] 82) 39)).heap[w.heap.size]? = some (.cells (madeCells #[.int .i64 0, .int .i64 0] 82) 39) := heap_alloc_new w _
  unfold World.cell?
  rw [hh]
  exact ⟨made_pairq 41 (0 + i * 2) (by omega), made_pairq 41 (0 + i * 2 + 1) (by omega)⟩
theorem run_made41 (w : World) : (Instr.makeSlice 24 (.int .i64 41) (.int .i64 41)).run Tryz.prog w =
    .ok (.slice (some ⟨w.heap.size, 0, none⟩) 41 41) (w.alloc (.cells (madeCells #[.int .i64 0, .int .i64 0] 82) 39)) := run_made_pairq 41 (by omega) w

theorem set2_alloc {w : World} {R : Nat} (x y : Value) (o : Obj) (h : R < w.heap.size) : ((w.alloc o).setCell ⟨R, 0, none⟩ x).setCell ⟨R, 1, none⟩ y = ((w.setCell ⟨R, 0, none⟩ x).setCell ⟨R, 1, none⟩ y).alloc o := by
  rw [World.setCell_alloc_past o R 0 x h, World.setCell_alloc_past o R 1 y (by simp only [World.setCell, Array.size_modify]; exact h)]

/-- a desk and deeds are drawn -/
def RunDr (w : World) (e : Ending) (w' : World) : Prop :=
  ∃ (a : Option Addr) (c : Nat) (b : Option Addr) (c2 : Nat) (xs : List Int) (L : List (List Int)) (p : Option Addr) (cp : Nat) (ds : List (Int × Int)), e = .returned (.tuple #[.agg #[.slice a xs.length c, .slice b L.length c2], .slice p ds.length cp]) ∧ DeskR w' (.agg #[.slice a xs.length c, .slice b L.length c2]) xs L ∧ okD9 xs L ∧ Dds w' p ds ∧ DAd p cp ds.length ∧ ds.length ≤ 41 ∧ Below w.heap.size w w'
theorem RunDr.drew {w W : World} {e : Ending} (h : RunDr w e W) : RunDr w e W.drew := by
  obtain ⟨a, c, b, c2, xs, L, p, cp, ds, he, hR, hk, hD, ha, h41, hE⟩ := h
  have hb : Below W.heap.size W W.drew := (Below.refl _ W).drew
  exact ⟨a, c, b, c2, xs, L, p, cp, ds, he, hR.kept hb, hk, hD.kept hb, ha, h41, hE.drew⟩
theorem runDr_end {w W : World} {B : Nat} {p1 p2 p : Option Addr} {e1 e2 cp : Nat} {xs : List Int} {rs : List Fr} {ds : List (Int × Int)} (hg : DeskG W B (.slice p1 xs.length e1) (.slice p2 rs.length e2) xs rs) (hB : w.heap.size < B) (hk : okD9 xs (rs.map Fr.xs)) (hd : Dds W p ds) (ha : DAd p cp ds.length) (hp : ∀ g, p = some ⟨g, 0, none⟩ → B ≤ g) (h41 : ds.length ≤ 41) (hb : Below w.heap.size w W) :
    RunDr w (.returned (.tuple #[.agg #[.slice p1 xs.length e1, .slice p2 rs.length e2], .slice p ds.length cp])) ((W.setCell ⟨w.heap.size, 0, none⟩ (.slice p1 xs.length e1)).setCell ⟨w.heap.size, 1, none⟩ (.slice p2 rs.length e2)) := by
  have hR := hk.read ((hg.put (p := ⟨w.heap.size, 0, none⟩) (u := .slice p1 xs.length e1) hB).put (p := ⟨w.heap.size, 1, none⟩) (u := .slice p2 rs.length e2) hB) rfl
  have hq : ∀ g o, p = some ⟨g, o, none⟩ → g ≠ w.heap.size := fun g o e => by
    rcases ha.2 with ⟨h, _⟩ | ⟨g', h⟩
    · rw [h] at e; cases e
    · have := hp g' h
      rw [h] at e
      injection e with e
      injection e with e
      omega
  have hD := (hd.put (q := ⟨w.heap.size, 0, none⟩) (u := .slice p1 xs.length e1) hq).put (q := ⟨w.heap.size, 1, none⟩) (u := .slice p2 rs.length e2) hq
  have hE := (hb.setCell (p := ⟨w.heap.size, 0, none⟩) (Nat.le_refl _) (.slice p1 xs.length e1)).setCell (p := ⟨w.heap.size, 1, none⟩) (Nat.le_refl _) (.slice p2 rs.length e2)
  have hl : rs.length = (rs.map Fr.xs).length := (List.length_map ..).symm
  rw [hl] at hR hD hE ⊢
  exact ⟨p1, e1, p2, e2, xs, rs.map Fr.xs, p, cp, ds, rfl, hR, hk, hD, ha, h41, hE⟩

set_option maxRecDepth 100000 in
set_option maxHeartbeats 6400000 in
theorem DrawDeskRun_any (a : Option Addr) (n cap : Nat) (w : World) (h : BytesIn w a n cap) :
    Calls Tryz.prog 12 #[.slice a n cap] w (RunDr w) := by
  have H := Lib.hid (bytes_al h (.cells #[.slice none 0 0, .slice none 0 0] 31))
  have HAL := Lib.hid (alloc_below w (.cells #[.slice none 0 0, .slice none 0 0] 31))
  have HBR := Lib.hid (Blk2.new w 31 (.slice none 0 0) (.slice none 0 0))
  obtain ⟨w0, hw0⟩ : ∃ w0, w.alloc (.cells #[.slice none 0 0, .slice none 0 0] 31) = w0 := ⟨_, rfl⟩
  rw [hw0] at H HAL HBR
  clear h
  go_enter Tryz.func12, Tryz.ntmps12
  go_wp2_with fail
  clear hw0
  refine (open_any _ _ _ _ H.out).mono ?_
  rintro e w1 ⟨rfl, hb1, hr1⟩
  have hlt : w.heap.size < w0.heap.size := HBR.out.lt
  replace HBR := Lib.hid (HBR.out.kept hb1 HBR.out.lt)
  have HB1 := Lib.hid (below_onto HAL.out hb1); have HR1 := Lib.hid hr1
  obtain ⟨rb, hrb⟩ : ∃ rb, w0.heap.size = rb := ⟨_, rfl⟩
  rw [hrb] at HR1 hlt ⊢
  clear hb1 hr1 hrb
  go_wp2_with fail
  have hrbw : rb < w1.heap.size := HR1.out.1
  refine (desk_any rb 0 12 (by omega) (by omega) (by omega) _ HR1.out).mono ?_
  rintro e w2 ⟨v1, v2, xs, rs, rfl, hg, hk, ho, hr⟩
  obtain ⟨p1, e1, rfl⟩ := hg.now.slice
  obtain ⟨p2, e2, hp2⟩ := hg.past.seq.slice
  rw [List.length_map] at hp2
  subst hp2
  have hal := alloc_below w2 (.cells #[.slice p1 xs.length e1, .slice p2 rs.length e2] 31)
  have HBA := Lib.hid (Blk2.new w2 31 (.slice p1 xs.length e1) (.slice p2 rs.length e2))
  replace HBR := Lib.hid ((HBR.out.only ho (by omega)).kept hal (HBR.out.only ho (by omega)).lt)
  have HB3 := Lib.hid ((HB1.out.trans (ho.below (by omega) HB1.out.size)).alloc (show w.heap.size ≤ w2.heap.size by have := HB1.out.size; have := ho.size; omega) (.cells #[.slice p1 xs.length e1, .slice p2 rs.length e2] 31))
  have HG := Lib.hid (hg.kept hal)
  have HK := Lib.hid hk
  have HR := Lib.hid (hr.al (.cells #[.slice p1 xs.length e1, .slice p2 rs.length e2] 31))
  have HSZ := Lib.hid (show w.heap.size < w1.heap.size ∧ w1.heap.size ≤ w2.heap.size ∧ rb < w2.heap.size by have := ho.size; omega)
  obtain ⟨w3, hw3⟩ : ∃ w3, w2.alloc (.cells #[.slice p1 xs.length e1, .slice p2 rs.length e2] 31) = w3 := ⟨_, rfl⟩
  obtain ⟨A, hA⟩ : ∃ A, w2.heap.size = A := ⟨_, rfl⟩
  rw [hw3] at HBA HBR HB3 HG HR
  rw [hA] at HBA HSZ
  have hd1 : ¬ A = w.heap.size := by have := HSZ.out; omega
  have hd3 : ¬ w.heap.size = A := fun e => hd1 e.symm
  have HAR := Lib.hid (show A ≠ rb by have := HSZ.out; omega)
  have HDR := Lib.hid (show w.heap.size ≠ rb by omega)
  have HN1 := Lib.hid hd1
  clear hg hk ho hr hal
  go_wp2_with fail
  clear hw3 hA
  refine (odd_any rb _ 30 (by omega) (by omega) (by omega) _ HR.out).mono ?_
  rintro e w4 ⟨o, rfl, ho4, hr4⟩
  replace HBA := Lib.hid (HBA.out.only ho4 HAR.out); replace HBR := Lib.hid (HBR.out.only ho4 HDR.out); replace HG := Lib.hid (HG.out.only ho4 hrbw)
  replace HB3 := Lib.hid (HB3.out.trans (ho4.below (by omega) HB3.out.size))
  replace HR := Lib.hid hr4
  replace HSZ := Lib.hid (show w.heap.size < w1.heap.size ∧ w1.heap.size ≤ A ∧ rb < A ∧ A < w4.heap.size by have := HSZ.out; have := HBA.out.lt; omega)
  clear ho4 hr4
  cases o with
  | true =>
    have hmk := run_made41
    have hX := runDr_end (cp := 41) (HG.out.kept (alloc_below w4 (.cells (madeCells #[.int .i64 0, .int .i64 0] 82) 39))) (by have := HSZ.out; omega) HK.out (made_dds w4) ⟨by simp, .inr ⟨_, rfl⟩⟩ (fun g e => by injection e with e; injection e with e; have := HSZ.out; omega) (by simp) (HB3.out.alloc HB3.out.size _)
    rw [List.length_replicate] at hX
    have HX := Lib.hid hX
    clear hX
    have hR := HBR.out.kept (alloc_below w4 (.cells (madeCells #[.int .i64 0, .int .i64 0] 82) 39)) HBR.out.lt
    have hr0 := hR.cell.1; have hr1 := hR.cell.2; have hr2 := hR.frozen 0; have hr3 := hR.frozen 1
    have hs0 := HBR.out.cell.1; have hs1 := HBR.out.cell.2; have hs2 := HBR.out.frozen 0; have hs3 := HBR.out.frozen 1
    have ha0 := HBA.out.cell.1; have ha1 := HBA.out.cell.2
    have hA := HBA.out.kept (alloc_below w4 (.cells (madeCells #[.int .i64 0, .int .i64 0] 82) 39)) HBA.out.lt
    have hb0 := hA.cell.1; have hb1 := hA.cell.2
    go_wp2_with fail
    go_region
    all_goals
      go_wp2_with fail
      first
        | (refine bodyPost_ret (results_desk rfl _ _ w.heap.size ((hR.set0 _).set1 _) rfl rfl (by kernel_rfl)) rfl ?_
           exact HX.out.drew)
        | (rw [← set2_alloc _ _ _ HBR.out.lt]
           refine bodyPost_ret (results_desk rfl _ _ w.heap.size ((hR.set0 _).set1 _) rfl rfl (by kernel_rfl)) rfl ?_
           exact HX.out.drew)
  | false =>
    have hoI : OwnI w4 w1.heap.size (.slice p1 xs.length e1) xs.length := ⟨xs, rfl, HK.out.1.2, HG.out.now⟩
    obtain ⟨_, _, hpe, hlst⟩ := hoI.lst HK.out.1.1 hrbw
    injection hpe with h1 h2 h3
    subst h1; subst h3; clear h2
    have HL := Lib.hid hlst
    have HKS := Lib.hid (show ∀ W : World, W.heap[A]? = w4.heap[A]? → (W.cell? ⟨A, 0, none⟩ = some (.slice p1 xs.length e1) ∧ W.cell? ⟨A, 1, none⟩ = some (.slice p2 rs.length e2)) from fun W hW => Blk2.cell (show Blk2 W A 31 _ _ from hW.trans HBA.out))
    clear hoI hlst
    go_upto_region 5 with fail
    go_region_held3 (fun W => W.cell? ⟨A, 0, none⟩ = some (.slice p1 xs.length e1) ∧ W.cell? ⟨A, 1, none⟩ = some (.slice p2 rs.length e2))
      (first | exact HKS.out _ rfl | exact HKS.out _ HA7.out | exact HKS.out _ (((set_blk HN1.out).trans (set_blk HN1.out)).trans HA7.out) | go_keep)
      (first | (go_at_call 50; refine (deeds_any rb (0 + 1100 + 1) p1 xs.length e1 (by omega) _ (by first | with_reducible exact HR.out | with_reducible exact rdr_dr HR.out) (by first | with_reducible exact HL.out | with_reducible exact lst_dr HL.out)).mono ?_; rintro e w7 ⟨v7, ds, rfl, hdl, hdx, hown, ho7, hr7⟩; obtain ⟨p7, c7, hv7, hda, hdd, hdb⟩ := hown.slc hdx (by omega); subst hv7; have hs7 : w1.heap.size ≤ w4.heap.size := (by have := HSZ.out; omega); have HDD := Lib.hid hdd; have HDA := Lib.hid hda; have HDB := Lib.hid (show ∀ g, p7 = some ⟨g, 0, none⟩ → w1.heap.size ≤ g from fun g e => Nat.le_trans hs7 (hdb g e)); have HDL := Lib.hid hdl; have HO7 := Lib.hid (show Only rb w4 w7 from (by first | with_reducible exact ho7 | with_reducible exact (only_dr (Only.refl rb w4)).trans ho7)); have HA7 := Lib.hid (only_new HBA.out HO7.out HAR.out); have HBR7 := Lib.hid (HBR.out.only HO7.out HDR.out); have hr0 := HBR7.out.cell.1; have hr1 := HBR7.out.cell.2; have hr2 := HBR7.out.frozen 0; have hr3 := HBR7.out.frozen 1; clear hdl hdx hown ho7 hr7 hda hdd hdb hs7))
    all_goals
      go_wp2_with fail
      refine bodyPost_ret (results_desk rfl _ _ w.heap.size ((HBR7.out.set0 _).set1 _) rfl rfl (by kernel_rfl)) rfl ?_
      exact runDr_end (HG.out.only HO7.out hrbw) HSZ.out.1 HK.out HDD.out HDA.out HDB.out (by have := HDL.out; omega) (HB3.out.trans (HO7.out.below (by omega) HB3.out.size))
end Go.Proofs.YthaickihoagnmaaGreatDoor

namespace Go.Proofs.YthaickihoagnmaaGreatDoor
set_option linter.unusedVariables false
set_option linter.unusedSimpArgs false
open Go.RowKit Go.Maps

theorem dcut (p : Option Addr) (cp n m : Nat) (h : DAd p cp n) (hm : m ≤ n) (W : World) : (Instr.slice 24 (.slice p n cp) none (some (.int .i64 m)) none).run Tryz.prog W = .ok (.slice p m cp) W := by
  have hz : ∀ w, (Go.sizeOf 39).run Tryz.prog w = .ok 2 w := fun w => by kernel_rfl
  obtain ⟨hc, ⟨rfl, rfl⟩ | ⟨g, rfl⟩⟩ := h
  · have hm0 : m = 0 := by omega
    have hn0 : n = 0 := by omega
    subst hm0; subst hn0
    simp [Instr.slice, Instr.sliceBounds, Instr.sliceBound, run_underlying Tryz.underlying24, asIntOf, hz]
  · have h0 : (0 : Int) ≤ (m : Int) := by omega
    have hmc : ¬ cp < m := by omega
    simp [hmc, Instr.slice, Instr.sliceBounds, Instr.sliceBound, run_underlying Tryz.underlying24, asIntOf, hz, h0, Addr.add_lit]
theorem dlow (p : Option Addr) (cp n m : Nat) (h : DAd p cp n) (hm : m < n) :
    ∃ g, p = some ⟨g, 0, none⟩ ∧ ∀ W, (Instr.slice 24 (.slice p n cp) (some (.int .i64 m)) none none).run Tryz.prog W = .ok (.slice (some ⟨g, m * 2, none⟩) (n - m) (cp - m)) W := by
  have hz : ∀ w, (Go.sizeOf 39).run Tryz.prog w = .ok 2 w := fun w => by kernel_rfl
  obtain ⟨hc, ⟨rfl, rfl⟩ | ⟨g, rfl⟩⟩ := h
  · omega
  · refine ⟨g, rfl, fun W => ?_⟩
    have h0 : (0 : Int) ≤ (m : Int) := by omega
    have hc' : ¬ cp = m := by omega
    have hnm : ¬ n < m := by omega
    simp [hnm, Instr.slice, Instr.sliceBounds, Instr.sliceBound, run_underlying Tryz.underlying24, asIntOf, hz, h0, hc', Addr.add_lit]
theorem dlow0 (p : Option Addr) (cp : Nat) (h : DAd p cp 0) (W : World) : (Instr.slice 24 (.slice p 0 cp) (some (.int .i64 0)) none none).run Tryz.prog W = .ok (.slice p 0 cp) W := by
  have hz : ∀ w, (Go.sizeOf 39).run Tryz.prog w = .ok 2 w := fun w => by kernel_rfl
  obtain ⟨hc, ⟨rfl, rfl⟩ | ⟨g, rfl⟩⟩ := h
  · simp [Instr.slice, Instr.sliceBounds, Instr.sliceBound, run_underlying Tryz.underlying24, asIntOf, hz]
  · simp [Instr.slice, Instr.sliceBounds, Instr.sliceBound, run_underlying Tryz.underlying24, asIntOf, hz, Addr.add_lit]
theorem Dds.take {w : World} {p : Option Addr} {ds : List (Int × Int)} (h : Dds w p ds) (m : Nat) : Dds w p (ds.take m) := by
  refine ⟨⟨by have := h.1.1; rw [List.length_take]; omega, fun d hd => h.1.2 d (List.mem_of_mem_take hd)⟩, ?_⟩
  rcases h.2 with h0 | ⟨b, o, e, hl, hr⟩
  · exact .inl (by rw [List.length_take]; omega)
  · exact .inr ⟨b, o, e, hl, fun i hi => by
      have hi' : i < ds.length := by rw [List.length_take] at hi; omega
      rw [List.getElem_take]; exact hr i hi'⟩
/-- both parts of deeds -/
theorem dparts (p : Option Addr) (cp : Nat) (ds : List (Int × Int)) (h : DAd p cp ds.length) :
    ∃ p2 c2, (∀ W, (Instr.slice 24 (.slice p ds.length cp) none (some (.int .i64 ((ds.length / 2 : Nat) : Int))) none).run Tryz.prog W = .ok (.slice p (ds.take (ds.length / 2)).length cp) W) ∧
      (∀ W, (Instr.slice 24 (.slice p ds.length cp) (some (.int .i64 ((ds.length / 2 : Nat) : Int))) none none).run Tryz.prog W = .ok (.slice p2 (ds.drop (ds.length / 2)).length c2) W) ∧
      ∀ w, Dds w p ds → Dds w p2 (ds.drop (ds.length / 2)) := by
  have e1 : (ds.take (ds.length / 2)).length = ds.length / 2 := by rw [List.length_take]; omega
  have e2 : (ds.drop (ds.length / 2)).length = ds.length - ds.length / 2 := List.length_drop ..
  rw [e1, e2]
  by_cases h0 : ds.length = 0
  · refine ⟨p, cp, fun W => dcut p cp _ _ h (by omega) W, fun W => ?_, fun w hd => ⟨⟨by rw [e2]; omega, fun d hd' => hd.1.2 d (List.mem_of_mem_drop hd')⟩, .inl (by rw [e2]; omega)⟩⟩
    rw [h0] at h ⊢
    exact dlow0 p cp h W
  · obtain ⟨g, rfl, hl⟩ := dlow p cp ds.length (ds.length / 2) h (by omega)
    refine ⟨_, _, fun W => dcut _ cp _ _ h (by omega) W, hl, fun w hd => ⟨⟨by have := hd.1.1; rw [e2]; omega, fun d hd' => hd.1.2 d (List.mem_of_mem_drop hd')⟩, ?_⟩⟩
    obtain ⟨b, o, e, hlt, hr⟩ := hd.row (by omega)
    injection e with e
    injection e with e3 e4
    subst e3; subst e4
    refine .inr ⟨g, _, rfl, hlt, fun i hi => ?_⟩
    have hi' : ds.length / 2 + i < ds.length := by rw [e2] at hi; omega
    have := hr _ hi'
    rw [List.getElem_drop]
    rw [show ds.length / 2 * 2 + i * 2 = 0 + (ds.length / 2 + i) * 2 by omega]
    exact this
end Go.Proofs.YthaickihoagnmaaGreatDoor
