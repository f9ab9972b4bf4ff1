import Derived.Test.YthbancphegnpdaaTxI
namespace Go.Proofs.Ythbancphegnpdaa
set_option linter.unusedVariables false
set_option linter.unusedSimpArgs false
open Go.RowKit Go.Maps

/-- the cells of deeds -/
def cellsD (ds : List (Int × Int)) : List Value := ds.flatMap (fun d => [Value.int .i64 d.1, Value.int .i64 d.2])
theorem cellsD_len (ds : List (Int × Int)) : (cellsD ds).length = ds.length * 2 := by
  induction ds with
  | nil => rfl
  | cons d ds ih =>
    show ([Value.int .i64 d.1, Value.int .i64 d.2] ++ cellsD ds).length = _
    rw [List.length_append, ih, List.length_cons]; simp; omega
theorem cellsD_app (a b : List (Int × Int)) : cellsD (a ++ b) = cellsD a ++ cellsD b := by unfold cellsD; rw [List.flatMap_append]
theorem cellsD_at {ds : List (Int × Int)} {i : Nat} (hi : i < ds.length) : (cellsD ds)[i * 2]? = some (.int .i64 ds[i].1) ∧ (cellsD ds)[i * 2 + 1]? = some (.int .i64 ds[i].2) := by
  induction ds generalizing i with
  | nil => cases hi
  | cons d ds ih =>
    show ([Value.int .i64 d.1, Value.int .i64 d.2] ++ cellsD ds)[i * 2]? = _ ∧ ([Value.int .i64 d.1, Value.int .i64 d.2] ++ cellsD ds)[i * 2 + 1]? = _
    cases i with
    | zero => exact ⟨rfl, rfl⟩
    | succ i =>
      have := ih (i := i) (by simp at hi; omega)
      rw [List.getElem?_append_right (by simp; omega), List.getElem?_append_right (by simp; omega)]
      have e1 : (i + 1) * 2 - [Value.int .i64 d.1, Value.int .i64 d.2].length = i * 2 := by simp; omega
      have e2 : (i + 1) * 2 + 1 - [Value.int .i64 d.1, Value.int .i64 d.2].length = i * 2 + 1 := by simp; omega
      rw [e1, e2]
      exact this
/-- deeds of one's own -/
def OwnD (w : World) (B : Nat) (v : Value) (ds : List (Int × Int)) : Prop := w.ownsRow B 31 2 v ds.length (cellsD ds)
theorem OwnD.nil (w : World) (B : Nat) : OwnD w B (.slice none 0 0) [] := World.ownsRow_nil _ _ _ _
theorem OwnD.snoc {w : World} {B : Nat} {v : Value} {ds : List (Int × Int)} {d : Int × Int} (h : w.ownsRow B 31 2 v (ds.length + 1) (cellsD ds ++ [.int .i64 d.1, .int .i64 d.2])) : OwnD w B v (ds ++ [d]) := by
  unfold OwnD; rw [List.length_append, cellsD_app]; exact h
theorem OwnD.slice {w : World} {B : Nat} {v : Value} {ds : List (Int × Int)} (h : OwnD w B v ds) : ∃ a c, v = .slice a ds.length c := by
  rcases h.2 with ⟨h1, h2⟩ | ⟨g, cap, cur, hv, _⟩
  · exact ⟨none, 0, by rw [h2]; exact h1⟩
  · exact ⟨_, cap, hv⟩
theorem OwnD.made (w : World) (B : Nat) (hB : B ≤ w.heap.size) : OwnD (w.alloc (.cells #[] 31)) B (.slice (some ⟨w.heap.size, 0, none⟩) 0 0) [] :=
  World.ownsRow_made w #[] 0 hB (Nat.zero_le _) rfl
/-- deeds in a row -/
def DRow (w : World) (b o : Nat) (ds : List (Int × Int)) : Prop := ∀ i (hi : i < ds.length), w.cell? ⟨b, o + i * 2, none⟩ = some (.int .i64 ds[i].1) ∧ w.cell? ⟨b, o + i * 2 + 1, none⟩ = some (.int .i64 ds[i].2)
theorem DRow.kept {w w' : World} {b o : Nat} {ds : List (Int × Int)} (h : DRow w b o ds) (hb : Below w.heap.size w w') (hl : b < w.heap.size) : DRow w' b o ds := fun i hi =>
  ⟨(hb.cell (p := ⟨b, o + i * 2, none⟩) hl).trans (h i hi).1, (hb.cell (p := ⟨b, o + i * 2 + 1, none⟩) hl).trans (h i hi).2⟩
theorem OwnD.row {w : World} {B : Nat} {v : Value} {ds : List (Int × Int)} (h : OwnD w B v ds) (h1 : 1 ≤ ds.length) : ∃ g c, v = .slice (some ⟨g, 0, none⟩) ds.length c ∧ B ≤ g ∧ g < w.heap.size ∧ ds.length ≤ c ∧ DRow w g 0 ds := by
  have hlt := World.ownsRow.lt h
  have h' : w.ownsRow B 31 2 v ds.length (cellsD ds) := h
  rcases h.2 with ⟨_, h2⟩ | ⟨g, cap, cur, hv, hB, _, hc, _⟩
  · omega
  · subst hv
    refine ⟨g, cap, rfl, hB, (hlt g rfl).2, hc, fun i hi => ?_⟩
    rw [Nat.zero_add, h'.cellAt _ (by omega), h'.cellAt _ (by omega)]
    exact cellsD_at hi
/-- a slice of deeds that can be read -/
def Dds (w : World) (a : Option Addr) (ds : List (Int × Int)) : Prop :=
  (ds.length ≤ 9223372036854775807 ∧ ∀ d ∈ ds, I64 d.1 ∧ I64 d.2) ∧ (ds.length = 0 ∨ ∃ b o, a = some ⟨b, o, none⟩ ∧ b < w.heap.size ∧ DRow w b o ds)
theorem Dds.kept {w w' : World} {a : Option Addr} {ds : List (Int × Int)} (h : Dds w a ds) (hb : Below w.heap.size w w') : Dds w' a ds := by
  obtain ⟨h1, h2⟩ := h
  refine ⟨h1, ?_⟩
  rcases h2 with h2 | ⟨b, o, e, hl, hr⟩
  · exact .inl h2
  · exact .inr ⟨b, o, e, Nat.lt_of_lt_of_le hl hb.size, hr.kept hb hl⟩
theorem Dds.row {w : World} {a : Option Addr} {ds : List (Int × Int)} (h : Dds w a ds) (h1 : 1 ≤ ds.length) : ∃ b o, a = some ⟨b, o, none⟩ ∧ b < w.heap.size ∧ DRow w b o ds := by
  obtain ⟨_, h | h⟩ := h
  · omega
  · exact h
theorem Try.infoDeed : (Try.prog.info? 31).map (fun i => (i.zero, i.size, i.bytes)) = some (some (.agg #[.int .i64 0, .int .i64 0]), 2, 16) := by kernel_rfl
theorem info_deed : ∃ i, Try.prog.info? 31 = some i ∧ i.zero = some (.agg #[.int .i64 0, .int .i64 0]) ∧ i.size = 2 ∧ i.bytes = 16 := by
  obtain ⟨i, hi, hzz⟩ := Option.map_eq_some_iff.1 Try.infoDeed
  simp only [Prod.mk.injEq] at hzz
  exact ⟨i, hi, hzz.1, hzz.2.1, hzz.2.2⟩

/-! ### what the model's ReadDeed looks at -/
def cand3 : List (Int × Int) := [(2, 0), (3, 0), (4, 0)]
def cand5 (y : Int) : List (Int × Int) := [(2, 0), (3, 0), (4, 0), (0, y), (1, y)]
theorem parts_all : deeds.all (fun d => if d.1 ≤ 1 then (spL (deedL d.1 d.2) 32).length == 2 && rdI ((spL (deedL d.1 d.2) 32).getD 1 []) == d.2 else (spL (deedL d.1 d.2) 32).length == 1) = true := by decide +kernel
theorem cand_in {l : List UInt8} {k x : Int} (h : rdD l = some (k, x)) :
    ((spL l 32).length = 2 → (k, x) ∈ cand5 (rdI ((spL l 32).getD 1 []))) ∧ ((spL l 32).length ≠ 2 → (k, x) ∈ cand3) := by
  obtain ⟨h1, h2⟩ := rdD_some h
  have h3 := List.all_eq_true.1 parts_all (k, x) (deeds_mem.2 h1)
  rw [h2] at h3
  have h4 := dOk_iff.1 h1
  by_cases hk : k ≤ 1
  · rw [if_pos hk, Bool.and_eq_true, beq_iff_eq, beq_iff_eq] at h3
    refine ⟨fun _ => ?_, fun hn => absurd h3.1 hn⟩
    rw [h3.2]
    have : k = 0 ∨ k = 1 := by omega
    rcases this with rfl | rfl <;> simp [cand5]
  · rw [if_neg hk, beq_iff_eq] at h3
    have : (k = 2 ∨ k = 3 ∨ k = 4) ∧ x = 0 := by omega
    obtain ⟨hk2, rfl⟩ := this
    refine ⟨fun hn => by omega, fun _ => ?_⟩
    rcases hk2 with rfl | rfl | rfl <;> simp [cand3]
theorem cand_hit {l : List UInt8} {k x : Int} (hl : l ≠ []) (h : deedL k x = l) : rdD l = some (k, x) := by
  have : dOk k x = true := by
    cases hd : dOk k x with
    | true => rfl
    | false => rw [deedL_no hd] at h; exact absurd h.symm hl
  rw [← h]; exact rdD_of this
theorem cand_miss {l : List UInt8} {cs : List (Int × Int)} (hin : ∀ k x, rdD l = some (k, x) → (k, x) ∈ cs) (h : ∀ d ∈ cs, deedL d.1 d.2 ≠ l) : rdD l = none := by
  cases hr : rdD l with
  | none => rfl
  | some d =>
    obtain ⟨k, x⟩ := d
    exact absurd (rdD_some hr).2 (h _ (hin k x hr))

set_option maxRecDepth 100000 in
set_option maxHeartbeats 3200000 in
theorem specReadDeed_any (s : ByteArray) (hs : s.size ≤ 1048600) (w : World) :
    Calls Try.prog 26 #[.string s] w (RdEnd s.data.toList w) := by
  obtain ⟨i0, hii, hz0, hz1, hz2⟩ := info_deed
  have HBEL := Lib.hid (alloc_below w (.cells #[.int .i64 0, .int .i64 0] 31))
  have HBLK := Lib.hid (Blk2.new w 31 (.int .i64 0) (.int .i64 0))
  have HSZ := Lib.hid (alloc_size w (.cells #[.int .i64 0, .int .i64 0] 31))
  go_enter Try.func26, Try.ntmps26
  go_wp2_with fail
  refine (l1Cut_any s 32 hs _).mono ?_
  rintro e w2 ⟨vs, rfl, hO, hb2⟩
  replace HBLK := Lib.hid (HBLK.out.kept hb2 HBLK.out.lt)
  replace HBEL := Lib.hid (below_onto HBEL.out hb2)
  have HO := Lib.hid hO
  have HCI := Lib.hid (fun k x (h : rdD s.data.toList = some (k, x)) => cand_in h)
  have HB2S := Lib.hid hb2.size
  clear hO hb2
  obtain ⟨ps, hps⟩ : ∃ ps, spL s.data.toList 32 = ps := ⟨_, rfl⟩
  rw [hps] at HO HCI
  clear hps
  obtain ⟨av, cv, rfl⟩ := HO.out.slice
  obtain ⟨n, hn⟩ : ∃ n, (ps.map bs).length = n := ⟨_, rfl⟩
  have HN := Lib.hid (show ps.length = n by rw [← hn, List.length_map])
  rw [hn] at HO ⊢
  clear hn
  have hbel3 := alloc_below w2 (.cells #[.int .i64 2, .int .i64 0, .int .i64 3, .int .i64 0, .int .i64 4, .int .i64 0] 31)
  have HO3 : Hid (OwnD (w2.alloc (.cells #[.int .i64 2, .int .i64 0, .int .i64 3, .int .i64 0, .int .i64 4, .int .i64 0] 31)) w.heap.size (.slice (some ⟨w2.heap.size, 0, none⟩) 3 3) cand3) :=
    Lib.hid ⟨rfl, .inr ⟨w2.heap.size, 3, _, rfl, by have := HBEL.out.size; omega, heap_alloc_new w2 _, (show 3 ≤ 3 by omega), (by unfold maxLen; omega), rfl, rfl⟩⟩
  replace HBLK := Lib.hid (HBLK.out.kept hbel3 HBLK.out.lt)
  replace HBEL := Lib.hid (below_onto HBEL.out hbel3)
  have HOK := Lib.hid (fun (hlen : 1 < (ps.map bs).length) => (show OwnS (w2.alloc (.cells #[.int .i64 2, .int .i64 0, .int .i64 3, .int .i64 0, .int .i64 4, .int .i64 0] 31)) (w2.heap.size.min 0) (.slice av (ps.map bs).length cv) (ps.map bs) from by
    have h := HO.out
    rw [show n = (ps.map bs).length by rw [List.length_map, HN.out]] at h
    refine ⟨h.1, ?_⟩
    rcases h.2 with h1 | ⟨g, cap, cur, hv, hB, hg, hr⟩
    · exact .inl h1
    · exact .inr ⟨g, cap, cur, hv, by simp, (hbel3.block g (Array.getElem?_eq_some_iff.1 hg).1).trans hg, hr⟩).at hlen)
  obtain ⟨w3, hw3⟩ : ∃ w3, w2.alloc (.cells #[.int .i64 2, .int .i64 0, .int .i64 3, .int .i64 0, .int .i64 4, .int .i64 0] 31) = w3 := ⟨_, rfl⟩
  obtain ⟨G, hG⟩ : ∃ G, w2.heap.size = G := ⟨_, rfl⟩
  rw [hw3, hG] at HO3
  rw [hw3] at HBLK HBEL HOK
  have HW3 := Lib.hid hw3; have HG := Lib.hid hG
  have HGE := Lib.hid (show w.heap.size < G by rw [← hG]; exact Nat.lt_of_lt_of_le (by have := HSZ.out; omega) HB2S.out)
  clear hbel3 hw3 hG HSZ HO
  by_cases hn2 : n = 2
  · have hb2 : ((n : Int) == 2) = true := by rw [hn2]; rfl
    obtain ⟨gs, cs, hvs, _, hgl, hcell⟩ := HOK.out (by rw [List.length_map, HN.out]; omega)
    rw [List.length_map, HN.out] at hvs
    have HL := Lib.hid (HN.out.trans hn2)
    have hp1 : (ps.map bs)[1]'(by rw [List.length_map, HN.out]; omega) = bs (ps.getD 1 []) := by
      rw [List.getElem_map, List.getD_eq_getElem?_getD, List.getElem?_eq_getElem (by rw [HN.out]; omega : 1 < ps.length)]; rfl
    rw [hp1] at hcell
    injection hvs with e1 _ e3
    subst e1
    subst e3
    obtain ⟨pt, hpt⟩ : ∃ pt, bs (ps.getD 1 []) = pt := ⟨_, rfl⟩
    rw [hpt] at hcell
    have HPT := Lib.hid (show pt.data.toList = ps.getD 1 [] by rw [← hpt]; rfl)
    have hn1 : (1 : Int) < (n : Int) := by omega
    have hnn : (n : Int) = 2 := by omega
    clear hn2 hp1 hpt HOK hnn
    have hw3 := HW3.out; have hG := HG.out
    go_wp2_with fail
    clear hw3 hG
    refine (specReadSet_any pt _).mono ?_
    rintro e w' ⟨rfl, rfl⟩
    rw [HPT.out]
    have HIN := Lib.hid (fun k x (h : rdD s.data.toList = some (k, x)) => (HCI.out k x h).1 HL.out)
    obtain ⟨y, hy⟩ : ∃ y, rdI (ps.getD 1 []) = y := ⟨_, rfl⟩
    rw [hy] at HIN ⊢
    have HO4 : Hid (w3.ownsRow w.heap.size 31 2 (.slice (some ⟨G, 0, none⟩) 3 3) 3 (cellsD cand3)) := Lib.hid HO3.out
    have k1 : Hid (∀ (jj : Nat) (u : Value), [Value.int .i64 0, .int .i64 y, .int .i64 1, .int .i64 y][jj]? = some u → (w3.alloc (.cells #[.int .i64 0, .int .i64 y, .int .i64 1, .int .i64 y] 31)).cell? ((⟨w3.heap.size, 0, none⟩ : Addr).add jj) = some u) := Lib.hid (fun jj u h => by
      have hh : (w3.alloc (.cells #[.int .i64 0, .int .i64 y, .int .i64 1, .int .i64 y] 31)).heap[w3.heap.size]? = some (.cells #[.int .i64 0, .int .i64 y, .int .i64 1, .int .i64 y] 31) := heap_alloc_new w3 _
      rw [Addr.add_lit, Nat.zero_add]
      unfold World.cell?
      rw [hh]
      have h4 : jj < 4 := (List.getElem?_eq_some_iff.1 h).1
      have : jj = 0 ∨ jj = 1 ∨ jj = 2 ∨ jj = 3 := by omega
      rcases this with rfl | rfl | rfl | rfl <;> exact h)
    have k2 : Hid (∀ u ∈ [Value.int .i64 0, .int .i64 y, .int .i64 1, .int .i64 y], u.oneCell' = true) := Lib.hid (by intro u hu; simp only [List.mem_cons, List.not_mem_nil, or_false] at hu; rcases hu with rfl | rfl | rfl | rfl <;> rfl)
    have k3 : Hid (3 + 2 ≤ maxLen) := Lib.hid (by unfold maxLen; omega)
    have k4 : Hid ((3 + 2) * 16 ≤ 140737488355328) := Lib.hid (by omega)
    have k5 : Hid (w.heap.size ≤ (w3.alloc (.cells #[.int .i64 0, .int .i64 y, .int .i64 1, .int .i64 y] 31)).heap.size) := Lib.hid (by rw [alloc_size]; have := HBEL.out.size; omega)
    clear hy HCI HPT
    go_wp2_with (at_builtin; refine wpList_append_own _ rfl (.tmp 25) (.tmp 30) 36 rfl w.heap.size 31 i0 (.agg #[.int .i64 0, .int .i64 0]) 2 16 Try.underlying36 hii hz0 hz1 hz2 rfl (by decide) _ _ _ rfl (HO4.out.alloc _) ⟨w3.heap.size, 0, none⟩ 2 2 [.int .i64 0, .int .i64 y, .int .i64 1, .int .i64 y] rfl rfl k1.out k2.out k3.out k4.out k5.out ?_)
    intro v5 w5 hown5 hgrow5 _
    have hgl3 : G < w3.heap.size := (World.ownsRow.lt HO3.out G rfl).2
    have hne : w.heap.size ≠ G := by have := HBLK.out.lt; intro e; have := (World.ownsRow.lt HO3.out G rfl).1; have h9 := HGE.out; omega
    have hB5 : Below w.heap.size w w5 := HBEL.out.trans (((Below.refl w.heap.size w3).alloc HBEL.out.size _).grown hgrow5 k5.out (fun g hg => (World.ownsRow.lt HO3.out g hg).1))
    have hBl5 : Blk2 w5 w.heap.size 31 (.int .i64 0) (.int .i64 0) := ((hgrow5.block _ (by rw [alloc_size]; have := HBLK.out.lt; omega) (fun e => by simp only [Value.ownBlock, Option.some.injEq] at e; exact hne e)).trans (Below.heap_alloc _ _ _ HBLK.out.lt)).trans HBLK.out
    have hown6 : OwnD w5 w.heap.size v5 (cand5 y) := hown5
    obtain ⟨g5, c5, rfl, hg5B, hg5, hc5, hr5⟩ := hown6.row (by show 1 ≤ 5; omega)
    replace HBEL := Lib.hid hB5
    replace HBLK := Lib.hid hBl5
    have HR := Lib.hid hr5
    have HGL := Lib.hid hg5
    clear hown5 hgrow5 hne hB5 hBl5 hown6 hgl3 hg5B hg5 hc5 hr5 k1 k2 k3 k4 k5 HO4 HO3 hcell
    go_wp2_with fail
    obtain ⟨hB5, hBl5⟩ : Below w.heap.size w w5 ∧ Blk2 w5 w.heap.size 31 (.int .i64 0) (.int .i64 0) := ⟨HBEL.out, HBLK.out⟩
    have HB := Lib.hid hB5; have HBl := Lib.hid hBl5
    clear hB5 hBl5 HBEL HBLK
    go_loopw [8] (fun i wr => ∃ k : Nat, k ≤ 5 ∧ i = .int .i64 k ∧ Hid (∀ j (hj : j < (cand5 y).length), j < k → s.data.toList = [] ∨ deedL ((cand5 y)[j]).1 ((cand5 y)[j]).2 ≠ s.data.toList) ∧ Hid (Below w5.heap.size w5 wr)) (fun i _ => 5 - (intOf i).toNat)
    case atStart => exact ⟨0, Nat.zero_le _, rfl, Lib.hid (fun j _ hj => by omega), Lib.hid (Below.refl _ _)⟩
    case round =>
      obtain ⟨k, hk, rfl, HJ, HBR⟩ := hrel
      by_cases hlt : k < 5
      · have hki : (k : Int) < 5 := by omega
        have hk0 : (0 : Int) ≤ (k : Int) := by omega
        have hkl : k < (cand5 y).length := hlt
        by_cases hem : s.data.toList = []
        · have hemb : s.toList.isEmpty = true := by rw [toList_data', hem]; rfl
          have HEM := Lib.hid hem
          clear hem hkl
          go_wp2_with fail
          go_roundw
          case rel => exact ⟨k + 1, by omega, by go_num, Lib.hid (fun j _ _ => .inl HEM.out), HBR⟩
          case measure => simp [intOf]; omega
        · have hemb : s.toList.isEmpty = false := by
            rw [toList_data']
            cases hl : s.data.toList with
            | nil => exact absurd hl hem
            | cons a l => rfl
          have hr := (HR.out.kept HBR.out HGL.out) k hkl
          rw [Nat.zero_add] at hr
          obtain ⟨dk, hdk⟩ : ∃ dk, (cand5 y)[k] = dk := ⟨_, rfl⟩
          rw [hdk] at hr
          obtain ⟨kk, xx⟩ := dk
          dsimp only at hr
          obtain ⟨hc0, hc1⟩ := hr
          have HBB := Lib.hid (HBl.out.kept HBR.out HBl.out.lt)
          have HBT := Lib.hid (below_onto HB.out HBR.out)
          by_cases ht : deedL kk xx = s.data.toList
          · have hbt : ((deedT kk xx).toList == s.toList) = true := by rw [eqT]; exact decide_eq_true ht
            have HRR := Lib.hid (rdD_is (cand_hit hem ht))
            have HCC : Hid (∀ W, Below wr.heap.size wr W → W.cell? ⟨g5, k * 2, none⟩ = some (.int .i64 kk) ∧ W.cell? ⟨g5, k * 2 + 1, none⟩ = some (.int .i64 xx)) := Lib.hid (fun W hW => ⟨(hW.cell (p := ⟨g5, k * 2, none⟩) (Nat.lt_of_lt_of_le HGL.out HBR.out.size)).trans hc0, (hW.cell (p := ⟨g5, k * 2 + 1, none⟩) (Nat.lt_of_lt_of_le HGL.out HBR.out.size)).trans hc1⟩)
            clear ht hdk hem hkl
            go_wp2_with fail
            refine (specDeedText_any _ _ _).mono ?_
            rintro e w6 ⟨rfl, hb6⟩
            replace HBB := Lib.hid (HBB.out.kept hb6 HBB.out.lt)
            replace HBT := Lib.hid (below_onto HBT.out hb6)
            obtain ⟨hr0, hr1⟩ := HBB.out.cell
            have hf0 := HBB.out.frozen 0; have hf1 := HBB.out.frozen 1
            obtain ⟨hd0, hd1⟩ := HCC.out w6 hb6
            clear hb6 hc0 hc1
            go_wp2_with fail
            refine bodyPost_ret (results_deed rfl _ _ w.heap.size ((HBB.out.set0 (.int .i64 kk)).set1 (.int .i64 xx)) rfl rfl (by kernel_rfl)) rfl ?_
            exact ⟨by rw [HRR.out.1, HRR.out.2.1, HRR.out.2.2] <;> rfl, (HBT.out.setCell (p := ⟨w.heap.size, 0, none⟩) (Nat.le_refl _) _).setCell (p := ⟨w.heap.size, 1, none⟩) (Nat.le_refl _) _⟩
          · have hbt : ((deedT kk xx).toList == s.toList) = false := by rw [eqT]; exact decide_eq_false ht
            have HT := Lib.hid ht
            have HD := Lib.hid hdk
            clear ht hdk hem
            go_wp2_with fail
            refine (specDeedText_any _ _ _).mono ?_
            rintro e w6 ⟨rfl, hb6⟩
            have HBR6 := Lib.hid (below_onto HBR.out hb6)
            clear hb6 hc0 hc1
            go_wp2_with fail
            go_roundw
            case rel =>
              refine ⟨k + 1, by omega, by go_num, Lib.hid (fun j hj hjk => ?_), HBR6⟩
              by_cases e : j = k
              · subst e; right; rw [HD.out]; exact HT.out
              · exact HJ.out j hj (by omega)
            case measure => simp [intOf]; omega
      · have hki : ¬ (k : Int) < 5 := by omega
        have hkn : k = 5 := by omega
        have HRR : Hid (rdK s.data.toList = 0 ∧ rdY s.data.toList = 0 ∧ rdDB s.data.toList = false) := Lib.hid (by
          apply rdD_no
          by_cases hem : s.data.toList = []
          · rw [hem]; exact rdD_nil
          · refine cand_miss (cs := cand5 y) (fun k x h => HIN.out k x h) (fun d hd => ?_)
            obtain ⟨j, hj, rfl⟩ := List.getElem_of_mem hd
            rcases HJ.out j hj (by rw [hkn]; exact hj) with h | h
            · exact absurd h hem
            · exact h)
        have HBB := Lib.hid (HBl.out.kept HBR.out HBl.out.lt)
        have HBT := Lib.hid (below_onto HB.out HBR.out)
        obtain ⟨hr0, hr1⟩ := HBB.out.cell
        have hf0 := HBB.out.frozen 0; have hf1 := HBB.out.frozen 1
        clear hkn hk
        go_wp2_with fail
        refine bodyPost_ret (results_deed rfl _ _ w.heap.size ((HBB.out.set0 (.int .i64 0)).set1 (.int .i64 0)) rfl rfl (by kernel_rfl)) rfl ?_
        exact ⟨by rw [HRR.out.1, HRR.out.2.1, HRR.out.2.2] <;> rfl, (HBT.out.setCell (p := ⟨w.heap.size, 0, none⟩) (Nat.le_refl _) _).setCell (p := ⟨w.heap.size, 1, none⟩) (Nat.le_refl _) _⟩
  · have hb2 : ((n : Int) == 2) = false := by simp; omega
    have HIN := Lib.hid (fun k x (h : rdD s.data.toList = some (k, x)) => (HCI.out k x h).2 (by rw [HN.out]; exact hn2))
    obtain ⟨g5, c5, hgv, _, hg5, _, hr5⟩ := HO3.out.row (by show 1 ≤ 3; omega)
    cases hgv
    have HR := Lib.hid hr5
    have HGL := Lib.hid hg5
    clear hn2 HCI HOK HO3 hg5 hr5
    have hw3 := HW3.out; have hG := HG.out
    go_wp2_with fail
    clear hw3 hG
    obtain ⟨hB3, hBl3⟩ : Below w.heap.size w w3 ∧ Blk2 w3 w.heap.size 31 (.int .i64 0) (.int .i64 0) := ⟨HBEL.out, HBLK.out⟩
    have HB := Lib.hid hB3; have HBl := Lib.hid hBl3
    clear hB3 hBl3 HBEL HBLK
    go_loopw [8] (fun i wr => ∃ k : Nat, k ≤ 3 ∧ i = .int .i64 k ∧ Hid (∀ j (hj : j < (cand3).length), j < k → s.data.toList = [] ∨ deedL ((cand3)[j]).1 ((cand3)[j]).2 ≠ s.data.toList) ∧ Hid (Below w3.heap.size w3 wr)) (fun i _ => 3 - (intOf i).toNat)
    case atStart => exact ⟨0, Nat.zero_le _, rfl, Lib.hid (fun j _ hj => by omega), Lib.hid (Below.refl _ _)⟩
    case round =>
      obtain ⟨k, hk, rfl, HJ, HBR⟩ := hrel
      by_cases hlt : k < 3
      · have hki : (k : Int) < 3 := by omega
        have hk0 : (0 : Int) ≤ (k : Int) := by omega
        have hkl : k < (cand3).length := hlt
        by_cases hem : s.data.toList = []
        · have hemb : s.toList.isEmpty = true := by rw [toList_data', hem]; rfl
          have HEM := Lib.hid hem
          clear hem hkl
          go_wp2_with fail
          go_roundw
          case rel => exact ⟨k + 1, by omega, by go_num, Lib.hid (fun j _ _ => .inl HEM.out), HBR⟩
          case measure => simp [intOf]; omega
        · have hemb : s.toList.isEmpty = false := by
            rw [toList_data']
            cases hl : s.data.toList with
            | nil => exact absurd hl hem
            | cons a l => rfl
          have hr := (HR.out.kept HBR.out HGL.out) k hkl
          rw [Nat.zero_add] at hr
          obtain ⟨dk, hdk⟩ : ∃ dk, (cand3)[k] = dk := ⟨_, rfl⟩
          rw [hdk] at hr
          obtain ⟨kk, xx⟩ := dk
          dsimp only at hr
          obtain ⟨hc0, hc1⟩ := hr
          have HBB := Lib.hid (HBl.out.kept HBR.out HBl.out.lt)
          have HBT := Lib.hid (below_onto HB.out HBR.out)
          by_cases ht : deedL kk xx = s.data.toList
          · have hbt : ((deedT kk xx).toList == s.toList) = true := by rw [eqT]; exact decide_eq_true ht
            have HRR := Lib.hid (rdD_is (cand_hit hem ht))
            have HCC : Hid (∀ W, Below wr.heap.size wr W → W.cell? ⟨G, k * 2, none⟩ = some (.int .i64 kk) ∧ W.cell? ⟨G, k * 2 + 1, none⟩ = some (.int .i64 xx)) := Lib.hid (fun W hW => ⟨(hW.cell (p := ⟨G, k * 2, none⟩) (Nat.lt_of_lt_of_le HGL.out HBR.out.size)).trans hc0, (hW.cell (p := ⟨G, k * 2 + 1, none⟩) (Nat.lt_of_lt_of_le HGL.out HBR.out.size)).trans hc1⟩)
            clear ht hdk hem hkl
            go_wp2_with fail
            refine (specDeedText_any _ _ _).mono ?_
            rintro e w6 ⟨rfl, hb6⟩
            replace HBB := Lib.hid (HBB.out.kept hb6 HBB.out.lt)
            replace HBT := Lib.hid (below_onto HBT.out hb6)
            obtain ⟨hr0, hr1⟩ := HBB.out.cell
            have hf0 := HBB.out.frozen 0; have hf1 := HBB.out.frozen 1
            obtain ⟨hd0, hd1⟩ := HCC.out w6 hb6
            clear hb6 hc0 hc1
            go_wp2_with fail
            refine bodyPost_ret (results_deed rfl _ _ w.heap.size ((HBB.out.set0 (.int .i64 kk)).set1 (.int .i64 xx)) rfl rfl (by kernel_rfl)) rfl ?_
            exact ⟨by rw [HRR.out.1, HRR.out.2.1, HRR.out.2.2] <;> rfl, (HBT.out.setCell (p := ⟨w.heap.size, 0, none⟩) (Nat.le_refl _) _).setCell (p := ⟨w.heap.size, 1, none⟩) (Nat.le_refl _) _⟩
          · have hbt : ((deedT kk xx).toList == s.toList) = false := by rw [eqT]; exact decide_eq_false ht
            have HT := Lib.hid ht
            have HD := Lib.hid hdk
            clear ht hdk hem
            go_wp2_with fail
            refine (specDeedText_any _ _ _).mono ?_
            rintro e w6 ⟨rfl, hb6⟩
            have HBR6 := Lib.hid (below_onto HBR.out hb6)
            clear hb6 hc0 hc1
            go_wp2_with fail
            go_roundw
            case rel =>
              refine ⟨k + 1, by omega, by go_num, Lib.hid (fun j hj hjk => ?_), HBR6⟩
              by_cases e : j = k
              · subst e; right; rw [HD.out]; exact HT.out
              · exact HJ.out j hj (by omega)
            case measure => simp [intOf]; omega
      · have hki : ¬ (k : Int) < 3 := by omega
        have hkn : k = 3 := by omega
        have HRR : Hid (rdK s.data.toList = 0 ∧ rdY s.data.toList = 0 ∧ rdDB s.data.toList = false) := Lib.hid (by
          apply rdD_no
          by_cases hem : s.data.toList = []
          · rw [hem]; exact rdD_nil
          · refine cand_miss (cs := cand3) (fun k x h => HIN.out k x h) (fun d hd => ?_)
            obtain ⟨j, hj, rfl⟩ := List.getElem_of_mem hd
            rcases HJ.out j hj (by rw [hkn]; exact hj) with h | h
            · exact absurd h hem
            · exact h)
        have HBB := Lib.hid (HBl.out.kept HBR.out HBl.out.lt)
        have HBT := Lib.hid (below_onto HB.out HBR.out)
        obtain ⟨hr0, hr1⟩ := HBB.out.cell
        have hf0 := HBB.out.frozen 0; have hf1 := HBB.out.frozen 1
        clear hkn hk
        go_wp2_with fail
        refine bodyPost_ret (results_deed rfl _ _ w.heap.size ((HBB.out.set0 (.int .i64 0)).set1 (.int .i64 0)) rfl rfl (by kernel_rfl)) rfl ?_
        exact ⟨by rw [HRR.out.1, HRR.out.2.1, HRR.out.2.2] <;> rfl, (HBT.out.setCell (p := ⟨w.heap.size, 0, none⟩) (Nat.le_refl _) _).setCell (p := ⟨w.heap.size, 1, none⟩) (Nat.le_refl _) _⟩
end Go.Proofs.Ythbancphegnpdaa
