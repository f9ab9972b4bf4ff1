import Derived.Test.YthbancphegnpdaaTxG
import Derived.Laws.ResultCell
import Derived.Laws.Rows
namespace Go.Proofs.Ythbancphegnpdaa
set_option linter.unusedVariables false
set_option linter.unusedSimpArgs false
open Go.RowKit Go.Maps

/-- what ReadDeed answers -/
def rdK (l : List UInt8) : Int := match rdD l with | some d => d.1 | none => 0
def rdY (l : List UInt8) : Int := match rdD l with | some d => d.2 | none => 0
def rdDB (l : List UInt8) : Bool := (rdD l).isSome
theorem rdD_is {l : List UInt8} {k x : Int} (h : rdD l = some (k, x)) : rdK l = k ∧ rdY l = x ∧ rdDB l = true := by unfold rdK rdY rdDB; rw [h]; exact ⟨rfl, rfl, rfl⟩
theorem rdD_no {l : List UInt8} (h : rdD l = none) : rdK l = 0 ∧ rdY l = 0 ∧ rdDB l = false := by unfold rdK rdY rdDB; rw [h]; exact ⟨rfl, rfl, rfl⟩
theorem rdDB_some {l : List UInt8} (h : rdDB l = true) : rdD l = some (rdK l, rdY l) := by
  unfold rdDB at h
  cases hr : rdD l with
  | none => rw [hr] at h; cases h
  | some d => obtain ⟨k, x⟩ := d; obtain ⟨a, b, _⟩ := rdD_is hr; rw [a, b]
theorem rdDB_none {l : List UInt8} (h : rdDB l = false) : rdD l = none := by
  unfold rdDB at h
  cases hr : rdD l with
  | none => rfl
  | some d => rw [hr] at h; cases h
def RdEnd (l : List UInt8) (w : World) (e : Ending) (w' : World) : Prop := e = .returned (.tuple #[.agg #[.int .i64 (rdK l), .int .i64 (rdY l)], .bool (rdDB l)]) ∧ Below w.heap.size w w'

theorem results_deed {fn : Func} {p u : Tmp} (h : fn.results = #[.cell p 31, .tmp u]) (tmps : Array Value) (w : World) (B : Nat) {x y z : Value} (hB : Blk2 w B 31 x y) (hp : tmps.getD p undef = .pointer (some ⟨B, 0, none⟩)) (hu : tmps.getD u undef = z)
    (hi : (Try.prog.info? 31).map (·.size) = some 2) :
    (results fn tmps).run Try.prog w = .ok (.tuple #[.agg #[x, y], z]) w := by
  rw [results_cell_tmp h, hp, hu]
  simp [asAddr, run_loadVar_row w B _ _ _ _ _ hB Try.underlying31 rfl hi, Result.andThen]

theorem WordsAt.kept {w w' : World} {B : Nat} (h : WordsAt w B) (hb : Below w.heap.size w w') (hl : B < w.heap.size) : WordsAt w' B := fun k hk => (hb.cell (p := ⟨B, k, none⟩) hl).trans (h k hk)

set_option maxRecDepth 100000 in
set_option maxHeartbeats 3200000 in
theorem ReadDeed_any (s : ByteArray) (hs : s.size ≤ 1099511627776) (w : World) :
    Calls Try.prog 24 #[.string s] w (RdEnd s.data.toList w) := by
  have hbel1 := alloc_below w (.cells #[.int .i64 0, .int .i64 0] 31)
  have hblk1 := Blk2.new w 31 (.int .i64 0) (.int .i64 0)
  have hsz1 := alloc_size w (.cells #[.int .i64 0, .int .i64 0] 31)
  have HBEL := Lib.hid hbel1; have HBLK := Lib.hid hblk1; have HSZ := Lib.hid hsz1
  clear hbel1 hblk1 hsz1
  go_enter Try.func24, Try.ntmps24
  go_wp2_with fail
  refine (Cut_space s hs _).mono ?_
  rintro e w2 ⟨b0, rfl, hd⟩
  replace HBLK := Lib.hid (HBLK.out.kept hd.below (by rw [alloc_size]; omega))
  replace HBEL := Lib.hid (below_onto HBEL.out hd.below)
  have HSZ2 := Lib.hid (show w2.heap.size = w.heap.size + 1 by obtain ⟨m, rfl⟩ := hd; exact HSZ.out)
  clear hd HSZ
  obtain ⟨c1, hc1⟩ : ∃ c1, bs (cut1 s.data.toList) = c1 := ⟨_, rfl⟩
  obtain ⟨c2, hc2⟩ : ∃ c2, bs (cut2 s.data.toList) = c2 := ⟨_, rfl⟩
  rw [hc1, hc2]
  have HC1 := Lib.hid (show c1.data.toList = cut1 s.data.toList by rw [← hc1]; rfl)
  have HC2 := Lib.hid (show c2.data.toList = cut2 s.data.toList by rw [← hc2]; rfl)
  clear hc1 hc2
  go_wp2_with fail
  refine (deedWords_any _).mono ?_
  rintro e w3 ⟨rfl, hw3⟩
  have HW := Lib.hid (show WordsAt w3 w2.heap.size by rw [hw3]; exact words_new w2)
  have hb3 : Below w2.heap.size w2 w3 := by rw [hw3]; exact alloc_below w2 _
  have HSZ3 := Lib.hid (show w3.heap.size = w.heap.size + 2 by rw [hw3, alloc_size, HSZ2.out])
  replace HBLK := Lib.hid (HBLK.out.kept hb3 HBLK.out.lt)
  replace HBEL := Lib.hid (below_onto HBEL.out hb3)
  clear hw3 hb3
  go_wp2_with fail
  refine (IndexWord_any _ _ c1 _ HW.out).mono ?_
  rintro e w' ⟨rfl, rfl⟩
  rw [HC1.out]
  have HP := Lib.hid (rdD_parts s.data.toList)
  have hzr := idxW_rng (cut1 s.data.toList)
  obtain ⟨z, hz⟩ : ∃ z, idxW (cut1 s.data.toList) = z := ⟨_, rfl⟩
  rw [hz] at HP hzr ⊢
  clear hz
  have hbel4 := alloc_below w3 (.cells #[.int .i64 z, .int .i64 0] 31)
  have HBLA := Lib.hid (Blk2.new w3 31 (.int .i64 z) (.int .i64 0))
  have HSZ4 := Lib.hid (show (w3.alloc (.cells #[.int .i64 z, .int .i64 0] 31)).heap.size = w.heap.size + 3 by rw [alloc_size, HSZ3.out])
  replace HBLK := Lib.hid (HBLK.out.kept hbel4 HBLK.out.lt)
  replace HBEL := Lib.hid (below_onto HBEL.out hbel4)
  obtain ⟨w4, hw4⟩ : ∃ w4, w3.alloc (.cells #[.int .i64 z, .int .i64 0] 31) = w4 := ⟨_, rfl⟩
  obtain ⟨A, hA⟩ : ∃ A, w3.heap.size = A := ⟨_, rfl⟩
  rw [hw4] at HBLA HSZ4 HBLK HBEL
  rw [hA] at HBLA HSZ3
  have HW4 := Lib.hid hw4; have HA := Lib.hid hA
  clear hbel4 hw4 hA HW
  go_wp2_with fail
  rw [HW4.out, HA.out]
  clear HW4 HA HSZ2
  refine (ReadSet_any c2 _).mono ?_
  rintro e w5 ⟨rfl, hb5⟩
  replace HBLK := Lib.hid (HBLK.out.kept hb5 HBLK.out.lt)
  replace HBEL := Lib.hid (below_onto HBEL.out hb5)
  replace HBLA := Lib.hid (HBLA.out.kept hb5 HBLA.out.lt)
  rw [HC2.out]
  have HX : Hid (rdX (cut2 s.data.toList) = if rdB (cut2 s.data.toList) then rdI (cut2 s.data.toList) else 0) := Lib.hid rfl
  clear hb5 HSZ4
  -- the desk's two ways meet: the set is the one that was read, or none
  have HK : Hid (∀ W, Blk2 W A 31 (.int .i64 z) (.int .i64 (rdX (cut2 s.data.toList))) → Blk2 W w.heap.size 31 (.int .i64 0) (.int .i64 0) → Below w.heap.size w W →
      Calls Try.prog 22 #[.agg #[.int .i64 z, .int .i64 (rdX (cut2 s.data.toList))]] W fun e w' => e = .returned (.string (deedT z (rdX (cut2 s.data.toList)))) ∧ Blk2 w' A 31 (.int .i64 z) (.int .i64 (rdX (cut2 s.data.toList))) ∧ Blk2 w' w.heap.size 31 (.int .i64 0) (.int .i64 0) ∧ Below w.heap.size w w') := Lib.hid (by
    intro W h1 h2 h3
    refine (DeedText_any _ _ W).mono ?_
    rintro e w' ⟨rfl, hb⟩
    exact ⟨rfl, h1.kept hb h1.lt, h2.kept hb h2.lt, below_onto h3 hb⟩)
  have HNE := Lib.hid (show w.heap.size ≠ A by have := HSZ3.out; omega)
  have HAB := Lib.hid (show w.heap.size ≤ A by have := HSZ3.out; omega)
  have HEQ := Lib.hid (show ((deedT z (rdX (cut2 s.data.toList))).toList == s.toList) = decide (deedL z (rdX (cut2 s.data.toList)) = s.data.toList) from eqT)
  obtain ⟨x, hx⟩ : ∃ x, rdX (cut2 s.data.toList) = x := ⟨_, rfl⟩
  rw [hx] at HP HX HK HEQ
  clear hx
  obtain ⟨r, hr⟩ : ∃ r, rdI (cut2 s.data.toList) = r := ⟨_, rfl⟩
  rw [hr] at HX ⊢
  clear hr HC1 HC2 HSZ3
  cases hb : rdB (cut2 s.data.toList) with
  | false =>
    have hx0 : x = 0 := by rw [HX.out, hb]; rfl
    subst hx0
    obtain ⟨hq0, hq1⟩ := HBLA.out.cell
    clear hb HX
    by_cases h0 : z < 0
    · have hd0 : decide (z < 0) = true := decide_eq_true h0
      have hR : rdD s.data.toList = none := by
        rcases HP.out with h | h
        · exact h.2
        · omega
      have HR := Lib.hid (rdD_no hR)
      have hf0 := HBLK.out.frozen 0; have hf1 := HBLK.out.frozen 1
      obtain ⟨hr0, hr1⟩ := HBLK.out.cell
      clear hR h0
      go_wp2_with fail
      refine bodyPost_ret (results_deed rfl _ _ w.heap.size ((HBLK.out.set0 (.int .i64 0)).set1 (.int .i64 0)) rfl rfl (by kernel_rfl)) rfl ?_
      exact ⟨by rw [HR.out.1, HR.out.2.1, HR.out.2.2] <;> rfl, (HBEL.out.setCell (p := ⟨w.heap.size, 0, none⟩) (Nat.le_refl _) _).setCell (p := ⟨w.heap.size, 1, none⟩) (Nat.le_refl _) _⟩
    · have hd0 : decide (z < 0) = false := decide_eq_false h0
      by_cases ht : deedL z 0 = s.data.toList
      · have hbt : ((deedT z 0).toList == s.toList) = true := by rw [HEQ.out]; exact decide_eq_true ht
        have hR : rdD s.data.toList = some (z, 0) := by
          rcases HP.out with ⟨h | h, _⟩ | h
          · omega
          · exact absurd ht h
          · exact h.2.2
        have HR := Lib.hid (rdD_is hR)
        clear hR h0 ht
        go_wp2_with fail
        refine (HK.out _ HBLA.out HBLK.out HBEL.out).mono ?_
        rintro e w6 ⟨rfl, h1, h2, h3⟩
        have HBLA := Lib.hid h1; have HBLK := Lib.hid h2; have HBEL := Lib.hid h3
        obtain ⟨hq0, hq1⟩ := h1.cell
        obtain ⟨hr0, hr1⟩ := h2.cell
        have hf0 := HBLK.out.frozen 0; have hf1 := HBLK.out.frozen 1
        clear h1 h2 h3
        go_wp2_with fail
        refine bodyPost_ret (results_deed rfl _ _ w.heap.size ((HBLK.out.set0 (.int .i64 z)).set1 (.int .i64 0)) rfl rfl (by kernel_rfl)) rfl ?_
        exact ⟨by rw [HR.out.1, HR.out.2.1, HR.out.2.2] <;> rfl, (HBEL.out.setCell (p := ⟨w.heap.size, 0, none⟩) (Nat.le_refl _) _).setCell (p := ⟨w.heap.size, 1, none⟩) (Nat.le_refl _) _⟩
      · have hbt : ((deedT z 0).toList == s.toList) = false := by rw [HEQ.out]; exact decide_eq_false ht
        have hR : rdD s.data.toList = none := by
          rcases HP.out with h | h
          · exact h.2
          · exact absurd h.2.1 ht
        have HR := Lib.hid (rdD_no hR)
        clear hR h0 ht
        go_wp2_with fail
        refine (HK.out _ HBLA.out HBLK.out HBEL.out).mono ?_
        rintro e w6 ⟨rfl, h1, h2, h3⟩
        have HBLA := Lib.hid h1; have HBLK := Lib.hid h2; have HBEL := Lib.hid h3
        obtain ⟨hr0, hr1⟩ := h2.cell
        have hf0 := HBLK.out.frozen 0; have hf1 := HBLK.out.frozen 1
        clear h1 h2 h3
        go_wp2_with fail
        refine bodyPost_ret (results_deed rfl _ _ w.heap.size ((HBLK.out.set0 (.int .i64 0)).set1 (.int .i64 0)) rfl rfl (by kernel_rfl)) rfl ?_
        exact ⟨by rw [HR.out.1, HR.out.2.1, HR.out.2.2] <;> rfl, (HBEL.out.setCell (p := ⟨w.heap.size, 0, none⟩) (Nat.le_refl _) _).setCell (p := ⟨w.heap.size, 1, none⟩) (Nat.le_refl _) _⟩
  | true =>
    have hx0 : r = x := by rw [HX.out, hb]; rfl
    subst hx0
    obtain ⟨hq0, hq1⟩ := HBLA.out.cell
    have hg0 := HBLA.out.frozen 0; have hg1 := HBLA.out.frozen 1
    have HBLA2 := Lib.hid (HBLA.out.set1 (.int .i64 r))
    have HBLK2 := Lib.hid (HBLK.out.other HNE.out 1 (.int .i64 r))
    have HBEL2 := Lib.hid (HBEL.out.setCell (p := ⟨A, 1, none⟩) HAB.out (.int .i64 r))
    clear hb HX
    by_cases h0 : z < 0
    · have hd0 : decide (z < 0) = true := decide_eq_true h0
      have hR : rdD s.data.toList = none := by
        rcases HP.out with h | h
        · exact h.2
        · omega
      have HR := Lib.hid (rdD_no hR)
      have hf0 := HBLK2.out.frozen 0; have hf1 := HBLK2.out.frozen 1
      obtain ⟨hr0, hr1⟩ := HBLK2.out.cell
      clear hR h0
      go_wp2_with fail
      refine bodyPost_ret (results_deed rfl _ _ w.heap.size ((HBLK2.out.set0 (.int .i64 0)).set1 (.int .i64 0)) rfl rfl (by kernel_rfl)) rfl ?_
      exact ⟨by rw [HR.out.1, HR.out.2.1, HR.out.2.2] <;> rfl, (HBEL2.out.setCell (p := ⟨w.heap.size, 0, none⟩) (Nat.le_refl _) _).setCell (p := ⟨w.heap.size, 1, none⟩) (Nat.le_refl _) _⟩
    · have hd0 : decide (z < 0) = false := decide_eq_false h0
      by_cases ht : deedL z r = s.data.toList
      · have hbt : ((deedT z r).toList == s.toList) = true := by rw [HEQ.out]; exact decide_eq_true ht
        have hR : rdD s.data.toList = some (z, r) := by
          rcases HP.out with ⟨h | h, _⟩ | h
          · omega
          · exact absurd ht h
          · exact h.2.2
        have HR := Lib.hid (rdD_is hR)
        clear hR h0 ht
        go_wp2_with fail
        refine (HK.out _ HBLA2.out HBLK2.out HBEL2.out).mono ?_
        rintro e w6 ⟨rfl, h1, h2, h3⟩
        have HBLA := Lib.hid h1; have HBLK := Lib.hid h2; have HBEL := Lib.hid h3
        obtain ⟨hq0, hq1⟩ := h1.cell
        obtain ⟨hr0, hr1⟩ := h2.cell
        have hf0 := HBLK.out.frozen 0; have hf1 := HBLK.out.frozen 1
        clear h1 h2 h3
        go_wp2_with fail
        refine bodyPost_ret (results_deed rfl _ _ w.heap.size ((HBLK.out.set0 (.int .i64 z)).set1 (.int .i64 r)) rfl rfl (by kernel_rfl)) rfl ?_
        exact ⟨by rw [HR.out.1, HR.out.2.1, HR.out.2.2] <;> rfl, (HBEL.out.setCell (p := ⟨w.heap.size, 0, none⟩) (Nat.le_refl _) _).setCell (p := ⟨w.heap.size, 1, none⟩) (Nat.le_refl _) _⟩
      · have hbt : ((deedT z r).toList == s.toList) = false := by rw [HEQ.out]; exact decide_eq_false ht
        have hR : rdD s.data.toList = none := by
          rcases HP.out with h | h
          · exact h.2
          · exact absurd h.2.1 ht
        have HR := Lib.hid (rdD_no hR)
        clear hR h0 ht
        go_wp2_with fail
        refine (HK.out _ HBLA2.out HBLK2.out HBEL2.out).mono ?_
        rintro e w6 ⟨rfl, h1, h2, h3⟩
        have HBLA := Lib.hid h1; have HBLK := Lib.hid h2; have HBEL := Lib.hid h3
        obtain ⟨hr0, hr1⟩ := h2.cell
        have hf0 := HBLK.out.frozen 0; have hf1 := HBLK.out.frozen 1
        clear h1 h2 h3
        go_wp2_with fail
        refine bodyPost_ret (results_deed rfl _ _ w.heap.size ((HBLK.out.set0 (.int .i64 0)).set1 (.int .i64 0)) rfl rfl (by kernel_rfl)) rfl ?_
        exact ⟨by rw [HR.out.1, HR.out.2.1, HR.out.2.2] <;> rfl, (HBEL.out.setCell (p := ⟨w.heap.size, 0, none⟩) (Nat.le_refl _) _).setCell (p := ⟨w.heap.size, 1, none⟩) (Nat.le_refl _) _⟩
end Go.Proofs.Ythbancphegnpdaa
