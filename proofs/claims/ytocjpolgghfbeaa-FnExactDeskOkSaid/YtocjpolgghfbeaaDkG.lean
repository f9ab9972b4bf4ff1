import Derived.Test.YtocjpolgghfbeaaDkF
namespace Go.Proofs.Ytocjpolgghfbeaa
set_option linter.unusedVariables false
set_option linter.unusedSimpArgs false
open Go.RowKit Go.Maps

/-- a copy of a row -/
def CopyI (xs : List Int) (w : World) (e : Ending) (w' : World) : Prop :=
  e = .returned (.slice (some ⟨w.heap.size, 0, none⟩) xs.length xs.length) ∧ OwnX w' w.heap.size 3 (.slice (some ⟨w.heap.size, 0, none⟩) xs.length xs.length) xs ∧ Below w.heap.size w w'

set_option maxHeartbeats 1600000 in
theorem toIntO_any (a : Option Addr) (xs : List Int) (cap : Nat) (hn : xs.length ≤ 1048576) (w : World) (hi : Ints w a xs.length (fun j => xs.getD j 0)) :
    Calls Try.prog 33 #[.slice a xs.length cap] w (CopyI xs w) := by
  obtain ⟨f, hf⟩ : ∃ f : Nat → Int, (fun j => xs.getD j 0) = f := ⟨_, rfl⟩
  rw [hf] at hi
  have HF := Lib.hid hf
  have HI := Lib.hid hi
  obtain ⟨n, hnn⟩ : ∃ n, xs.length = n := ⟨_, rfl⟩
  have HN := Lib.hid hnn
  rw [hnn] at hn HI ⊢
  clear hf hi hnn
  have hmk := run_make_row' (P := Try.prog) 23 3 (.int .i64 0) 8 Try.underlying23 Try.infoInt rfl .i64 .i64 n (by omega) (by omega)
  have hmade := World.rowIs_made w (.int .i64 0) n 3
  have hbel : Below w.heap.size w (w.alloc (.cells (madeCells #[.int .i64 0] n) 3)) := (Below.refl _ _).alloc (Nat.le_refl _) _
  go_enter Try.func33, Try.ntmps33
  go_wp2_with fail
  go_loopw [4] (fun i wr => ∃ k : Nat, k ≤ n ∧ i = .int .i64 k ∧ wr.rowIs w.heap.size 3 n (fill f k) ∧ Below w.heap.size w wr) (fun i _ => n - (intOf i).toNat)
  case atStart => exact ⟨0, Nat.zero_le _, rfl, hmade, hbel⟩
  case round =>
    clear hmade hbel
    obtain ⟨k, hk, rfl, hrow, hb⟩ := hrel
    by_cases hlt : k < n
    · obtain ⟨bk, off, rfl, hbk, hr⟩ := HI.out.row (by omega)
      have hr' := hr.below hb hbk
      have hc := hr' k hlt
      have hold := hrow.cell hlt
      have hfr := hrow.frozen k
      clear hr hr' hbk
      go_wp2_with fail
      go_roundw
      case rel => exact ⟨k + 1, by omega, by go_num, fill_step hrow, hb.setCell (Nat.le_refl _) _⟩
      case measure => simp [intOf]; omega
    · have HB := Lib.hid hb
      have HO : Hid (OwnX wr w.heap.size 3 (.slice (some ⟨w.heap.size, 0, none⟩) n n) xs) := Lib.hid (by
        obtain ⟨c, h1, h2, h3⟩ := hrow
        refine Rw.own ⟨c, h1, h2, fun i hi => ?_⟩ HN.out.symm (Nat.le_refl _) (Nat.le_refl _) (by unfold maxLen; omega)
        rw [h3 i hi]
        unfold fill
        rw [if_pos (by omega), ← HF.out])
      clear hrow hb
      go_wp2_with fail
      go_ret
      unfold CopyI
      rw [HN.out]
      exact ⟨rfl, HO.out, HB.out⟩

/-- the slices of families, and none behind them -/
def vAt (rs : List Fr) (i : Nat) : Value := (rs.map Fr.v)[i]?.getD (.slice none 0 0)
theorem vAt_old {rs : List Fr} {y : Fr} {i : Nat} (h : i ≠ rs.length) : vAt (rs ++ [y]) i = vAt rs i := by
  unfold vAt
  rw [List.map_append]
  by_cases hi : i < rs.length
  · rw [List.getElem?_append_left (by rw [List.length_map]; exact hi)]
  · rw [List.getElem?_append_right (by rw [List.length_map]; omega), List.length_map, List.getElem?_eq_none (by simp; omega), List.getElem?_eq_none (by rw [List.length_map]; omega)]
theorem vAt_new (rs : List Fr) (y : Fr) : vAt (rs ++ [y]) rs.length = y.v := by
  unfold vAt
  rw [List.map_append, List.getElem?_append_right (by rw [List.length_map]; exact Nat.le_refl _), List.length_map, Nat.sub_self]; rfl
theorem Try.infoSl : (Try.prog.info? 23).map (fun i => (i.zero, i.size, i.bytes)) = some (some (.slice none 0 0), 1, 24) := by kernel_rfl

/-- the state of a copy of families -/
structure CpS (n : Nat) (L : List (List Int)) (w : World) (k : Nat) (rs : List Fr) (wr : World) : Prop where
  xs : rs.map Fr.xs = L.take k
  len : rs.length = k
  row : ∀ r ∈ rs, OwnX wr (w.heap.size + 1) 3 r.v r.xs
  dis : (rs.map Fr.g).Nodup
  cells : wr.rowIs w.heap.size 23 n (vAt rs)
  bel : Below w.heap.size w wr
theorem CpS.step {n : Nat} {L : List (List Int)} {w wr w5 : World} {k : Nat} {rs : List Fr} {l : List Int} (h : CpS n L w k rs wr) (hk : k < L.length) (hl : L.getD k [] = l)
    (ho : OwnX w5 wr.heap.size 3 (.slice (some ⟨wr.heap.size, 0, none⟩) l.length l.length) l) (hb : Below wr.heap.size wr w5) :
    CpS n L w (k + 1) (rs ++ [⟨wr.heap.size, l.length, l⟩]) (w5.setCell ⟨w.heap.size, k, none⟩ (.slice (some ⟨wr.heap.size, 0, none⟩) l.length l.length)) := by
  have hlt : ∀ r ∈ rs, w.heap.size + 1 ≤ r.g ∧ r.g < wr.heap.size := fun r hr => World.ownsRow.lt (h.row r hr) _ rfl
  have hG : w.heap.size < wr.heap.size := h.cells.lt
  refine ⟨?_, by rw [List.length_append, h.len]; rfl, fun r hr => ?_, ?_, ?_, (h.bel.trans (hb.mono h.bel.size)).setCell (Nat.le_refl _) _⟩
  · rw [List.map_append, h.xs, List.take_add_one, List.getElem?_eq_getElem hk]
    rw [List.getD_eq_getElem?_getD, List.getElem?_eq_getElem hk] at hl
    rw [← hl]; rfl
  · rcases List.mem_append.1 hr with hr | hr
    · have := hlt r hr
      exact (((h.row r hr).kept hb)).blk (Below.heap_setCell _ ⟨w.heap.size, k, none⟩ _ r.g (show r.g ≠ w.heap.size by omega))
    · rw [List.mem_singleton] at hr
      subst hr
      exact OwnX.blk (x := ⟨wr.heap.size, l.length, l⟩) (ho.base (by omega)) (Below.heap_setCell _ ⟨w.heap.size, k, none⟩ _ wr.heap.size (show wr.heap.size ≠ w.heap.size by omega))
  · rw [List.map_append, List.nodup_append]
    refine ⟨h.dis, by simp, fun a ha b hb' e => ?_⟩
    simp at hb'
    subst hb'; subst e
    obtain ⟨r, hr, e⟩ := List.mem_map.1 ha
    have := (hlt r hr).2
    omega
  · have h5 : w5.rowIs w.heap.size 23 n (vAt rs) := by
      obtain ⟨c, h1, h2, h3⟩ := h.cells
      exact ⟨c, (hb.block _ hG).trans h1, h2, h3⟩
    refine (h5.set k _).congr fun i _ => ?_
    by_cases e : i = k
    · subst e
      rw [if_pos rfl, ← h.len, vAt_new]; rfl
    · rw [if_neg e, vAt_old (by rw [h.len]; exact e)]
/-- a copy of families -/
def CopyF (L : List (List Int)) (w : World) (e : Ending) (w' : World) : Prop :=
  ∃ rs, e = .returned (.slice (some ⟨w.heap.size, 0, none⟩) L.length L.length) ∧ rs.map Fr.xs = L ∧ Fams w' w.heap.size (.slice (some ⟨w.heap.size, 0, none⟩) L.length L.length) rs ∧ Below w.heap.size w w'
theorem CpS.done {L : List (List Int)} {w wr : World} {rs : List Fr} (h : CpS L.length L w L.length rs wr) (hn : L.length ≤ 1048576) :
    rs.map Fr.xs = L ∧ Fams wr w.heap.size (.slice (some ⟨w.heap.size, 0, none⟩) L.length L.length) rs := by
  have hlt : ∀ r ∈ rs, w.heap.size + 1 ≤ r.g ∧ r.g < wr.heap.size := fun r hr => World.ownsRow.lt (h.row r hr) _ rfl
  refine ⟨by rw [h.xs, List.take_length], ⟨.inr ⟨w.heap.size, 0, L.length, by rw [List.length_map, h.len], by rw [List.length_map, h.len]; exact Nat.le_refl _, by unfold maxLen; omega, Nat.le_refl _, h.cells.lt, fun i u hu => ?_⟩,
    fun r hr => (h.row r hr).base (by omega), h.dis, fun r hr e => ?_⟩⟩
  · have hi : i < L.length := by have := (List.getElem?_eq_some_iff.1 hu).1; rw [List.length_map, h.len] at this; exact this
    rw [Nat.zero_add, h.cells.cell hi]
    unfold vAt
    rw [hu]; rfl
  · have := (hlt r hr).1
    injection e with e
    have e2 : w.heap.size = r.g := e
    omega

set_option maxRecDepth 100000 in
set_option maxHeartbeats 1600000 in
theorem toNest_any (b : Option Addr) (L : List (List Int)) (cap : Nat) (hL : L.length ≤ 1048576) (hl : ∀ l ∈ L, l.length ≤ 1048576) (w : World) (h : Nest w b L) :
    Calls Try.prog 66 #[.slice b L.length cap] w (CopyF L w) := by
  have H := Lib.hid h; have HLL := Lib.hid hl
  obtain ⟨n, hnn⟩ : ∃ n, L.length = n := ⟨_, rfl⟩
  have HN := Lib.hid hnn
  rw [hnn] at hL ⊢
  clear h hl hnn
  have hmk := run_make_row' (P := Try.prog) 24 23 (.slice none 0 0) 24 Try.underlying24 Try.infoSl rfl .i64 .i64 n (by omega) (by omega)
  have hmade := World.rowIs_made w (.slice none 0 0) n 23
  have hbel : Below w.heap.size w (w.alloc (.cells (madeCells #[.slice none 0 0] n) 23)) := (Below.refl _ _).alloc (Nat.le_refl _) _
  have HST : Hid (CpS n L w 0 [] (w.alloc (.cells (madeCells #[.slice none 0 0] n) 23))) := Lib.hid ⟨by simp, rfl, fun r hr => (by cases hr), List.nodup_nil, hmade, hbel⟩
  clear hmade hbel
  go_enter Try.func66, Try.ntmps66
  go_wp2_with fail
  go_loopw [4] (fun i wr => ∃ (k : Nat) (rs : List Fr), k ≤ n ∧ i = .int .i64 k ∧ Hid (CpS n L w k rs wr)) (fun i _ => n - (intOf i).toNat)
  case atStart => exact ⟨0, [], Nat.zero_le _, rfl, HST⟩
  case round =>
    clear HST
    obtain ⟨k, rs, hk, rfl, HS⟩ := hrel
    by_cases hlt : k < n
    · have hki : (k : Int) < (n : Int) := by omega
      have hk0 : (0 : Int) ≤ (k : Int) := by omega
      have hkl : k < L.length := by rw [HN.out]; exact hlt
      obtain ⟨bk, o, a1, c1, rfl, _, hi, hcell⟩ := H.out.at hkl
      have hc := hcell wr HS.out.bel
      have HI := Lib.hid (hi.below HS.out.bel (Nat.le_refl _))
      have HLN := Lib.hid (show (L.getD k []).length ≤ 1048576 from HLL.out _ (by rw [List.getD_eq_getElem?_getD, List.getElem?_eq_getElem hkl]; exact List.getElem_mem hkl))
      obtain ⟨l, hl⟩ : ∃ l, L.getD k [] = l := ⟨_, rfl⟩
      have HLE := Lib.hid hl
      have HKL := Lib.hid hkl
      rw [hl] at hc HI HLN
      clear hi hcell hl hkl
      go_wp2_with fail
      refine (toIntO_any a1 l c1 HLN.out _ HI.out).mono ?_
      rintro e w5 ⟨rfl, hown, hb5⟩
      have HN2 := Lib.hid (HS.out.step HKL.out HLE.out hown hb5)
      have hold := (show w5.rowIs w.heap.size 23 n (vAt rs) by
        obtain ⟨c, h1, h2, h3⟩ := HS.out.cells
        exact ⟨c, (hb5.block _ HS.out.cells.lt).trans h1, h2, h3⟩)
      have hcl := hold.cell hlt
      have hfr := hold.frozen k
      clear hown hb5 hold hc
      go_wp2_with fail
      go_roundw
      case rel => exact ⟨k + 1, _, by omega, by go_num, HN2⟩
      case measure => simp [intOf]; omega
    · have hki : ¬ (k : Int) < (n : Int) := by omega
      have hkn : k = n := by omega
      subst hkn
      have HD : Hid (CopyF L w (.returned (.slice (some ⟨w.heap.size, 0, none⟩) k k)) wr) := Lib.hid (by
        have hs := HS.out
        have hn := HN.out
        subst hn
        obtain ⟨h1, h2⟩ := hs.done hL
        exact ⟨rs, rfl, h1, h2, hs.bel⟩)
      go_wp2_with fail
      go_ret
      exact HD.out
end Go.Proofs.Ytocjpolgghfbeaa
