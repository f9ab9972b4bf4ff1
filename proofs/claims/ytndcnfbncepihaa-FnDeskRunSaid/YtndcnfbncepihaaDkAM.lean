import Derived.Test.YtndcnfbncepihaaDkEight
namespace Go.Proofs.Ytndcnfbncepihaa
set_option linter.unusedVariables false
set_option linter.unusedSimpArgs false
open Go.RowKit Go.Maps

theorem results_desk_deed {fn : Func} {p u : Tmp} (h : fn.results = #[.cell p 26, .cell u 38]) (tmps : Array Value) (w : World) (B D : Nat) {x y k z : Value} (hB : Blk2 w B 26 x y) (hD : Blk2 w D 38 k z) (hp : tmps.getD p undef = .pointer (some ⟨B, 0, none⟩)) (hu : tmps.getD u undef = .pointer (some ⟨D, 0, none⟩))
    (hi : (Try.prog.info? 26).map (·.size) = some 2) (hj : (Try.prog.info? 38).map (·.size) = some 2) :
    (results fn tmps).run Try.prog w = .ok (.tuple #[.agg #[x, y], .agg #[k, z]]) w := by
  have hp' : tmps[p]?.getD undef = .pointer (some ⟨B, 0, none⟩) := by simpa using hp
  have hu' : tmps[u]?.getD undef = .pointer (some ⟨D, 0, none⟩) := by simpa using hu
  simp [results, h, hp', hu', asAddr, run_loadVar_row w B 26 26 #[x, y] (0, 0) _ hB Try.underlying26 rfl hi, run_loadVar_row w D 38 38 #[k, z] (0, 0) _ hD Try.underlying38 rfl hj]

/-- a desk and a deed are drawn -/
def DoDr (w : World) (e : Ending) (w' : World) : Prop :=
  ∃ (a : Option Addr) (c : Nat) (b : Option Addr) (c2 : Nat) (xs : List Int) (L : List (List Int)) (k x : Int), e = .returned (.tuple #[.agg #[.slice a xs.length c, .slice b L.length c2], .agg #[.int .i64 k, .int .i64 x]]) ∧ DeskR w' (.agg #[.slice a xs.length c, .slice b L.length c2]) xs L ∧ okD9 xs L ∧ I64 x ∧ Below w.heap.size w w'
/-- it is laid into the results' variables -/
theorem doDr_end {w w1 w7 wz : World} {p1 p2 : Option Addr} {e1 e2 : Nat} {xs : List Int} {rs : List Fr} {k x : Int} (hg : DeskG w7 w1.heap.size (.slice p1 xs.length e1) (.slice p2 rs.length e2) xs rs) (hk : okD9 xs (rs.map Fr.xs)) (hx : I64 x) (hb : Below w.heap.size w w7)
    (hw : w.heap.size + 2 ≤ w1.heap.size) (hz : ∃ q1 q2 q3 q4 : Addr × Value, wz = (((w7.setCell q1.1 q1.2).setCell q2.1 q2.2).setCell q3.1 q3.2).setCell q4.1 q4.2 ∧ ∀ q, q = q1 ∨ q = q2 ∨ q = q3 ∨ q = q4 → q.1.block = w.heap.size ∨ q.1.block = w.heap.size + 1) :
    DoDr w (.returned (.tuple #[.agg #[.slice p1 xs.length e1, .slice p2 rs.length e2], .agg #[.int .i64 k, .int .i64 x]])) wz := by
  obtain ⟨q1, q2, q3, q4, rfl, hq⟩ := hz
  have b1 := hq q1 (.inl rfl); have b2 := hq q2 (.inr (.inl rfl)); have b3 := hq q3 (.inr (.inr (.inl rfl))); have b4 := hq q4 (.inr (.inr (.inr rfl)))
  have hR := hk.read ((((hg.put (p := q1.1) (u := q1.2) (by omega)).put (p := q2.1) (u := q2.2) (by omega)).put (p := q3.1) (u := q3.2) (by omega)).put (p := q4.1) (u := q4.2) (by omega)) rfl
  have hB := (((hb.setCell (p := q1.1) (by omega) q1.2).setCell (p := q2.1) (by omega) q2.2).setCell (p := q3.1) (by omega) q3.2).setCell (p := q4.1) (by omega) q4.2
  have hl : rs.length = (rs.map Fr.xs).length := (List.length_map ..).symm
  rw [hl] at hR ⊢
  exact ⟨p1, e1, p2, e2, xs, rs.map Fr.xs, k, x, rfl, hR, hk, hx, hB⟩
theorem only_new {w w' : World} {rb A : Nat} {t : TypeId} {x y : Value} (h : Blk2 w A t x y) (ho : Only rb w w') (hne : A ≠ rb) : w'.heap[A]? = w.heap[A]? := ho.block A h.lt hne

set_option maxRecDepth 100000 in
set_option maxHeartbeats 6400000 in
theorem DrawDeskDo_any (a : Option Addr) (n cap : Nat) (w : World) (h : BytesIn w a n cap) :
    Calls Try.prog 22 #[.slice a n cap] w (DoDr w) := by
  have q1 := alloc_below w (.cells #[.slice none 0 0, .slice none 0 0] 26)
  have q2 := alloc_below (w.alloc (.cells #[.slice none 0 0, .slice none 0 0] 26)) (.cells #[.int .i64 0, .int .i64 0] 38)
  have H := Lib.hid (bytes_al (bytes_al h (.cells #[.slice none 0 0, .slice none 0 0] 26)) (.cells #[.int .i64 0, .int .i64 0] 38))
  have HAL := Lib.hid (below_onto q1 q2)
  have HBR := Lib.hid ((Blk2.new w 26 (.slice none 0 0) (.slice none 0 0)).kept q2 (by rw [alloc_size]; omega))
  have hbd := Blk2.new (w.alloc (.cells #[.slice none 0 0, .slice none 0 0] 26)) 38 (.int .i64 0) (.int .i64 0)
  rw [alloc_size] at hbd
  have HBD := Lib.hid hbd
  obtain ⟨w0, hw0⟩ : ∃ w0, (w.alloc (.cells #[.slice none 0 0, .slice none 0 0] 26)).alloc (.cells #[.int .i64 0, .int .i64 0] 38) = w0 := ⟨_, rfl⟩
  rw [hw0] at H HAL HBR HBD
  clear h q1 q2 hbd
  go_enter Try.func22, Try.ntmps22
  go_wp2_with fail
  clear hw0
  refine (open_any _ _ _ _ H.out).mono ?_
  rintro e w1 ⟨rfl, hb1, hr1⟩
  have hlt : w.heap.size + 1 < w0.heap.size := HBD.out.lt
  replace HBR := Lib.hid (HBR.out.kept hb1 HBR.out.lt); replace HBD := Lib.hid (HBD.out.kept hb1 HBD.out.lt)
  have HB1 := Lib.hid (below_onto HAL.out hb1); have HR1 := Lib.hid hr1
  obtain ⟨rb, hrb⟩ : ∃ rb, w0.heap.size = rb := ⟨_, rfl⟩
  rw [hrb] at HR1 hlt ⊢
  clear hb1 hr1 hrb
  go_wp2_with fail
  have hrbw : rb < w1.heap.size := HR1.out.1
  refine (desk_any rb 0 12 (by omega) (by omega) (by omega) _ HR1.out).mono ?_
  rintro e w2 ⟨v1, v2, xs, rs, rfl, hg, hk, ho, hr⟩
  obtain ⟨p1, e1, rfl⟩ := hg.now.slice
  obtain ⟨p2, e2, hp2⟩ := hg.past.seq.slice
  rw [List.length_map] at hp2
  subst hp2
  have hoI : OwnI w2 w1.heap.size (.slice p1 xs.length e1) xs.length := ⟨xs, rfl, hk.1.2, hg.now⟩
  obtain ⟨_, _, hpe, hlst⟩ := hoI.lst hk.1.1 hrbw
  injection hpe with h1 h2 h3
  subst h1; subst h3; clear h2
  have hal := alloc_below w2 (.cells #[.slice p1 xs.length e1, .slice p2 rs.length e2] 26)
  have HBA := Lib.hid (Blk2.new w2 26 (.slice p1 xs.length e1) (.slice p2 rs.length e2))
  replace HBR := Lib.hid ((HBR.out.only ho (by omega)).kept hal (HBR.out.only ho (by omega)).lt); replace HBD := Lib.hid ((HBD.out.only ho (by omega)).kept hal (HBD.out.only ho (by omega)).lt)
  have HB3 := Lib.hid ((HB1.out.trans (ho.below (by omega) HB1.out.size)).alloc (show w.heap.size ≤ w2.heap.size by have := HB1.out.size; have := ho.size; omega) (.cells #[.slice p1 xs.length e1, .slice p2 rs.length e2] 26))
  have HG := Lib.hid (hg.kept hal)
  have HK := Lib.hid hk
  have HR := Lib.hid (hr.al (.cells #[.slice p1 xs.length e1, .slice p2 rs.length e2] 26))
  have HL := Lib.hid (lst_al hlst (.cells #[.slice p1 xs.length e1, .slice p2 rs.length e2] 26))
  have HSZ := Lib.hid (show w.heap.size + 2 ≤ w1.heap.size ∧ w1.heap.size ≤ w2.heap.size ∧ rb < w2.heap.size by have := ho.size; omega)
  obtain ⟨w3, hw3⟩ : ∃ w3, w2.alloc (.cells #[.slice p1 xs.length e1, .slice p2 rs.length e2] 26) = w3 := ⟨_, rfl⟩
  obtain ⟨A, hA⟩ : ∃ A, w2.heap.size = A := ⟨_, rfl⟩
  rw [hw3] at HBA HBR HBD HB3 HG HR HL
  rw [hA] at HBA HSZ
  have hd1 : ¬ A = w.heap.size := by have := HSZ.out; omega
  have hd2 : ¬ A = w.heap.size + 1 := by have := HSZ.out; omega
  have hd3 : ¬ w.heap.size = A := fun e => hd1 e.symm
  have hd4 : ¬ w.heap.size + 1 = A := fun e => hd2 e.symm
  have HAR := Lib.hid (show A ≠ rb by have := HSZ.out; omega)
  have HDR := Lib.hid (show w.heap.size ≠ rb ∧ w.heap.size + 1 ≠ rb by omega)
  have HKS := Lib.hid (show ∀ W : World, W.heap[A]? = w3.heap[A]? → (W.cell? ⟨A, 0, none⟩ = some (.slice p1 xs.length e1) ∧ W.cell? ⟨A, 1, none⟩ = some (.slice p2 rs.length e2)) from fun W hW => Blk2.cell (show Blk2 W A 26 _ _ from hW.trans HBA.out))
  have HN1 := Lib.hid hd1; have HN2 := Lib.hid hd2
  clear hg hk ho hr hal hoI hlst
  go_upto_region 3 with fail
  clear hw3 hA
  go_region_held3 (fun W => W.cell? ⟨A, 0, none⟩ = some (.slice p1 xs.length e1) ∧ W.cell? ⟨A, 1, none⟩ = some (.slice p2 rs.length e2))
    (first | exact HKS.out _ rfl | exact HKS.out _ HA7.out | exact HKS.out _ (((set_blk HN1.out).trans (set_blk HN1.out)).trans HA7.out) | exact HKS.out _ (((set_blk HN2.out).trans (set_blk HN2.out)).trans HA7.out) | go_keep)
    (first | (go_at_call 53; refine (deedR_any rb (0 + 1100) p1 xs.length e1 (by omega) _ (by first | with_reducible exact HR.out | with_reducible exact rdr_dr HR.out) (by first | with_reducible exact HL.out | with_reducible exact lst_dr HL.out)).mono ?_; rintro e w7 ⟨kk, xx, rfl, _, _, hx, ho7, hr7⟩; have HX7 := Lib.hid hx; have HO7 := Lib.hid (show Only rb w3 w7 from (by first | with_reducible exact ho7 | with_reducible exact (only_dr (Only.refl rb w3)).trans ho7)); have HA7 := Lib.hid (only_new HBA.out HO7.out HAR.out); have HBR7 := Lib.hid (HBR.out.only HO7.out HDR.out.1); have HBD7 := Lib.hid (HBD.out.only HO7.out HDR.out.2); have hr0 := HBR7.out.cell.1; have hr1 := HBR7.out.cell.2; have hr2 := HBR7.out.frozen 0; have hr3 := HBR7.out.frozen 1; have ht0 := HBD7.out.cell.1; have ht1 := HBD7.out.cell.2; have ht2 := HBD7.out.frozen 0; have ht3 := HBD7.out.frozen 1; clear hx ho7 hr7))
  all_goals
    go_wp2_with fail
    first
      | (refine bodyPost_ret (results_desk_deed rfl _ _ w.heap.size (w.heap.size + 1) ((((HBR7.out.set0 _).set1 _).other (by omega) 0 _).other (by omega) 1 _) ((((HBD7.out.other (by omega) 0 _).other (by omega) 1 _).set0 _).set1 _) rfl rfl (by kernel_rfl) (by kernel_rfl)) rfl ?_
         exact doDr_end (HG.out.only HO7.out hrbw) HK.out HX7.out (HB3.out.trans (HO7.out.below (by omega) HB3.out.size)) HSZ.out.1 ⟨(⟨w.heap.size, 0, none⟩, _), (⟨w.heap.size, 1, none⟩, _), (⟨w.heap.size + 1, 0, none⟩, _), (⟨w.heap.size + 1, 1, none⟩, _), rfl, by rintro q (rfl | rfl | rfl | rfl) <;> simp⟩)
      | (refine bodyPost_ret (results_desk_deed rfl _ _ w.heap.size (w.heap.size + 1) ((((HBR7.out.other (by omega) 0 _).other (by omega) 1 _).set0 _).set1 _) ((((HBD7.out.set0 _).set1 _).other (by omega) 0 _).other (by omega) 1 _) rfl rfl (by kernel_rfl) (by kernel_rfl)) rfl ?_
         exact doDr_end (HG.out.only HO7.out hrbw) HK.out HX7.out (HB3.out.trans (HO7.out.below (by omega) HB3.out.size)) HSZ.out.1 ⟨(⟨w.heap.size + 1, 0, none⟩, _), (⟨w.heap.size + 1, 1, none⟩, _), (⟨w.heap.size, 0, none⟩, _), (⟨w.heap.size, 1, none⟩, _), rfl, by rintro q (rfl | rfl | rfl | rfl) <;> simp⟩)
end Go.Proofs.Ytndcnfbncepihaa
