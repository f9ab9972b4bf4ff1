import Derived.Test.YtacoeaoaabjkoaaGrdA
import Derived.Test.YtacoeaoaabjkoaaOwnX
namespace Go.Proofs.Ytacoeaoaabjkoaa
open Go.RowKit Go.Maps

theorem Try.infoPlaces : (Try.prog.info? 40).map (fun i => (i.zero, i.size, i.bytes)) = some (some (.int .i64 0), 1, 8) := by kernel_rfl

/-- a block of two cells -/
def Blk2 (w : World) (B : Nat) (t : TypeId) (x y : Value) : Prop := w.heap[B]? = some (.cells #[x, y] t (0, 0))
theorem Blk2.cell {w : World} {B : Nat} {t : TypeId} {x y : Value} (h : Blk2 w B t x y) : w.cell? ⟨B, 0, none⟩ = some x ∧ w.cell? ⟨B, 1, none⟩ = some y :=
  ⟨cell_of_row w B 0 _ t _ h, cell_of_row w B 1 _ t _ h⟩
theorem Blk2.frozen {w : World} {B : Nat} {t : TypeId} {x y : Value} (h : Blk2 w B t x y) (j : Nat) : w.frozen? ⟨B, j, none⟩ = false := by
  simp [World.frozen?, show w.heap[B]? = _ from h]
theorem Blk2.set1 {w : World} {B : Nat} {t : TypeId} {x y : Value} (h : Blk2 w B t x y) (u : Value) : Blk2 (w.setCell ⟨B, 1, none⟩ u) B t x u := by
  have := heap_setCell_same w B 1 #[x, y] t u h
  exact this
theorem Blk2.set0 {w : World} {B : Nat} {t : TypeId} {x y : Value} (h : Blk2 w B t x y) (u : Value) : Blk2 (w.setCell ⟨B, 0, none⟩ u) B t u y := by
  have := heap_setCell_same w B 0 #[x, y] t u h
  exact this
theorem Blk2.other {w : World} {B : Nat} {t : TypeId} {x y : Value} (h : Blk2 w B t x y) {b : Nat} (hb : B ≠ b) (j : Nat) (u : Value) : Blk2 (w.setCell ⟨b, j, none⟩ u) B t x y :=
  (heap_setCell_other w ⟨b, j, none⟩ B u hb).trans h
theorem Blk2.lt {w : World} {B : Nat} {t : TypeId} {x y : Value} (h : Blk2 w B t x y) : B < w.heap.size := by
  rcases Nat.lt_or_ge B w.heap.size with h1 | h1
  · exact h1
  · unfold Blk2 at h; rw [Array.getElem?_eq_none h1] at h; cases h
theorem Blk2.kept {w w' : World} {B C : Nat} {t : TypeId} {x y : Value} (h : Blk2 w B t x y) (hb : Below C w w') (hlt : B < C) : Blk2 w' B t x y := (hb.block B hlt).trans h
theorem Blk2.new (w : World) (t : TypeId) (x y : Value) : Blk2 (w.alloc (.cells #[x, y] t)) w.heap.size t x y := heap_alloc_new w _

/-- a ground is handed back, with true; or the zero value, and false -/
def GroundEnd (n : Nat) (f : Nat → Int) (w : World) (e : Ending) (w' : World) : Prop :=
  Below w.heap.size w w' ∧ ((grdB n f = true ∧ ∃ g cap, e = .returned (.tuple #[.agg #[.int .i64 (2 ^ n - 1), .slice (some ⟨g, 0, none⟩) n cap], .bool true]) ∧ w.heap.size ≤ g ∧ g < w'.heap.size ∧ Row w' g 0 n f)
    ∨ (grdB n f = false ∧ e = .returned (.tuple #[.agg #[.int .i64 0, .slice none 0 0], .bool false])))

theorem results_ground {fn : Func} {p u : Tmp} (h : fn.results = #[.cell p 55, .tmp u]) (tmps : Array Value) (w : World) (B : Nat) {x y z : Value} (hB : Blk2 w B 55 x y) (hp : tmps.getD p undef = .pointer (some ⟨B, 0, none⟩)) (hu : tmps.getD u undef = z)
    (hi : (Try.prog.info? 55).map (·.size) = some 2) :
    (results fn tmps).run Try.prog w = .ok (.tuple #[.agg #[x, y], z]) w := by
  rw [results_cell_tmp h, hp, hu]
  simp [asAddr, run_loadVar_row w B _ _ _ _ _ hB Try.underlying55 rfl hi, Result.andThen]

theorem low_bounds (n : Nat) (h1 : 1 ≤ n) (h7 : n ≤ 7) : (1 : Int) ≤ 2 ^ n ∧ (2 : Int) ^ n ≤ 128 := by
  rcases (show n = 1 ∨ n = 2 ∨ n = 3 ∨ n = 4 ∨ n = 5 ∨ n = 6 ∨ n = 7 by omega) with rfl | rfl | rfl | rfl | rfl | rfl | rfl <;> decide

set_option maxRecDepth 100000 in
set_option maxHeartbeats 1600000 in
theorem groundOf_no (a : Option Addr) (n cap : Nat) (f : Nat → Int) (h : n < 1 ∨ 7 < n) (hmax : n ≤ 9223372036854775807) (w : World) :
    Calls Try.prog 59 #[.slice a n cap] w (GroundEnd n f w) := by
  have HF := Lib.hid (show grdB n f = false by unfold grdB; rw [decide_eq_false (by omega)]; rfl)
  have hb := alloc_below w (.cells #[.int .i64 0, .slice none 0 0] 55)
  rcases h with h | h
  · have hd1 : decide ((n : Int) < 1) = true := by simp; omega
    go_enter Try.func59, Try.ntmps59
    go_wp2_with fail
    refine bodyPost_ret (results_ground rfl _ _ w.heap.size (Blk2.new w _ _ _) rfl rfl (by kernel_rfl)) rfl ?_
    exact ⟨hb, .inr ⟨HF.out, rfl⟩⟩
  · have hd1 : decide ((n : Int) < 1) = false := by simp; omega
    have hd2 : decide ((7 : Int) < (n : Int)) = true := by simp; omega
    go_enter Try.func59, Try.ntmps59
    go_wp2_with fail
    refine bodyPost_ret (results_ground rfl _ _ w.heap.size (Blk2.new w _ _ _) rfl rfl (by kernel_rfl)) rfl ?_
    exact ⟨hb, .inr ⟨HF.out, rfl⟩⟩

set_option maxRecDepth 100000 in
set_option maxHeartbeats 3200000 in
theorem groundOf_in (bk off n cap : Nat) (f : Nat → Int) (h1 : 1 ≤ n) (h7 : n ≤ 7) (w : World) (hr : Row w bk off n f) (hbk : bk < w.heap.size) :
    Calls Try.prog 59 #[.slice (some ⟨bk, off, none⟩) n cap] w (GroundEnd n f w) := by
  obtain ⟨i0, hi, hz0, hz1, hz2⟩ := info_parts Try.infoPlaces
  have hd1 : decide ((n : Int) < 1) = false := by simp; omega
  have hd2 : decide ((7 : Int) < (n : Int)) = false := by simp; omega
  obtain ⟨hp1, hp2⟩ := low_bounds n h1 h7
  obtain ⟨R, hR⟩ : ∃ R, R = w.heap.size := ⟨_, rfl⟩
  have hsz : (w.alloc (.cells #[.int .i64 0, .slice none 0 0] 55)).heap.size = R + 1 := by rw [alloc_size, hR]
  have hba : Below R w ((w.alloc (.cells #[.int .i64 0, .slice none 0 0] 55)).alloc (.cells #[.int .i64 (2 ^ n - 1), .slice none 0 0] 55)) := by
    rw [hR]; exact ((Below.refl _ _).alloc (Nat.le_refl _) _).alloc (by rw [alloc_size]; omega) _
  have hbr : Blk2 ((w.alloc (.cells #[.int .i64 0, .slice none 0 0] 55)).alloc (.cells #[.int .i64 (2 ^ n - 1), .slice none 0 0] 55)) R 55 (.int .i64 0) (.slice none 0 0) := by
    rw [hR]; exact (Blk2.new w _ _ _).kept (alloc_below _ _) (by rw [alloc_size]; omega)
  have hbi : Blk2 ((w.alloc (.cells #[.int .i64 0, .slice none 0 0] 55)).alloc (.cells #[.int .i64 (2 ^ n - 1), .slice none 0 0] 55)) (R + 1) 55 (.int .i64 (2 ^ n - 1)) (.slice none 0 0) := by
    rw [← hsz]; exact Blk2.new _ _ _ _
  have hst : OwnX ((w.alloc (.cells #[.int .i64 0, .slice none 0 0] 55)).alloc (.cells #[.int .i64 (2 ^ n - 1), .slice none 0 0] 55)) (R + 2) 40 (.slice none 0 0) (rowL f 0) := OwnX.nil _ _ _
  go_enter Try.func59, Try.ntmps59
  go_wp2_with fail
  obtain ⟨w2, hw2⟩ : ∃ w2, (w.alloc (.cells #[.int .i64 0, .slice none 0 0] 55)).alloc (.cells #[.int .i64 (2 ^ n - 1), .slice none 0 0] 55) = w2 := ⟨_, rfl⟩
  rw [hw2] at hba hbr hbi hst ⊢
  rw [← hR]
  have HRB := Lib.hid (show bk < R by omega)
  have HRZ := Lib.hid hR
  have HR := Lib.hid hr
  clear hw2 hsz hr hbk hR
  go_loopw [23] (fun i wr => ∃ (k : Nat) (v : Value), k ≤ n ∧ i = .int .i64 k ∧ Blk2 wr R 55 (.int .i64 0) (.slice none 0 0) ∧ Blk2 wr (R + 1) 55 (.int .i64 (2 ^ n - 1)) v ∧ OwnX wr (R + 2) 40 v (rowL f k) ∧ Below R w wr) (fun i _ => n - (intOf i).toNat)
  case atStart => exact ⟨0, _, Nat.zero_le _, rfl, hbr, hbi, hst, hba⟩
  case round =>
    clear hst hbr hbi hba
    obtain ⟨k, v, hk, rfl, hbr, hbi, hown, hbel⟩ := hrel
    have HBR := Lib.hid hbr; have HBI := Lib.hid hbi; have HB := Lib.hid hbel; have HO1 := Lib.hid hown
    clear hbr hbi hbel hown
    obtain ⟨a9, c9, rfl⟩ := HO1.out.slice
    by_cases hlt : k < n
    · have hc := (HR.out.below HB.out HRB.out) k hlt
      have hki : (k : Int) < (n : Int) := by omega
      have hcell := HBI.out.cell.2
      have HO : Hid (wr.ownsRow (R + 2) 40 1 (.slice a9 (rowL f k).length c9) (rowL f k).length ((rowL f k).map (Value.int .i64))) := Lib.hid HO1.out
      have hsz : R + 2 ≤ wr.heap.size := HBI.out.lt
      have HSZ := Lib.hid hsz
      have HL := Lib.hid (show (rowL f k).length ≤ 1000 by rw [rowL_len]; omega)
      have k1 := Lib.hid (fun (j : Nat) (u : Value) (h : [Value.int .i64 (f k)][j]? = some u) => cell_one_new wr (.int .i64 (f k)) 40 j u h)
      have k2 : Hid (∀ u ∈ [Value.int .i64 (f k)], u.oneCell' = true) := Lib.hid (by intro u hu; simp at hu; subst hu; rfl)
      have k3 : Hid ((rowL f k).length + 1 ≤ maxLen) := Lib.hid (by have := HL.out; unfold maxLen; omega)
      have k4 : Hid (((rowL f k).length + 1) * 8 ≤ 140737488355328) := Lib.hid (by have := HL.out; omega)
      have k5 : Hid (R + 2 ≤ (wr.alloc (.cells #[.int .i64 (f k)] 40)).heap.size) := Lib.hid (by rw [alloc_size]; have := HSZ.out; omega)
      clear hsz
      go_wp2_with (at_builtin; refine wpList_append_own _ rfl (.tmp 28) (.tmp 30) 53 rfl (R + 2) 40 i0 (.int .i64 0) 1 8 Try.underlying53 hi hz0 hz1 hz2 rfl (by decide) _ _ _ rfl (HO.out.alloc _) ⟨wr.heap.size, 0, none⟩ 1 1 [.int .i64 (f k)] rfl rfl k1.out k2.out k3.out k4.out k5.out ?_)
      intro v' w5 hown' hgrow _
      have hg5 : Below (R + 2) wr w5 := ((Below.refl (R + 2) wr).alloc HSZ.out _).grown hgrow (by have := HSZ.out; rw [alloc_size]; omega) (fun q hq => (HO.out.lt q hq).1)
      have ho5 := OwnX.snoc hown'
      rw [← rowL_succ] at ho5
      obtain ⟨a5, c5, rfl⟩ := ho5.slice
      have hbi5 := HBI.out.kept hg5 (by omega)
      have hbr5 := HBR.out.kept hg5 (by omega)
      have hold := hbi5.cell.2
      have hfr := hbi5.frozen 1
      have HBI5 := Lib.hid (hbi5.set1 (.slice a5 (rowL f (k + 1)).length c5)); have HBR5 := Lib.hid (hbr5.other (show R ≠ R + 1 by omega) 1 (.slice a5 (rowL f (k + 1)).length c5))
      have HO5 := Lib.hid (show OwnX (w5.setCell ⟨R + 1, 1, none⟩ (.slice a5 (rowL f (k + 1)).length c5)) (R + 2) 40 (.slice a5 (rowL f (k + 1)).length c5) (rowL f (k + 1)) from ho5.other (fun g _ hB _ => heap_setCell_other w5 ⟨R + 1, 1, none⟩ g (.slice a5 (rowL f (k + 1)).length c5) (by show g ≠ R + 1; omega)))
      have HB5 := Lib.hid ((HB.out.trans (hg5.mono (by omega))).setCell (p := ⟨R + 1, 1, none⟩) (by show R ≤ R + 1; omega) (.slice a5 (rowL f (k + 1)).length c5))
      clear hown' hgrow k1 k2 k3 k4 k5 ho5 hbi5 hbr5 hg5
      go_wp2_with fail
      go_roundw
      case rel => exact ⟨k + 1, .slice a5 (rowL f (k + 1)).length c5, by omega, by go_num, HBR5.out, HBI5.out, HO5.out, HB5.out⟩
      case measure => simp [intOf]; omega
    · have hki : ¬ (k : Int) < (n : Int) := by omega
      have hkn : k = n := by omega
      subst hkn
      obtain ⟨g, cp, hv, hBg, hgl, _, _, hrow, _⟩ := HO1.out.shape (by rw [rowL_len]; exact h1)
      injection hv with hv1 hv2 hv3
      subst hv1; subst hv3
      replace hrow := row_of_list hrow
      have HROW := Lib.hid hrow
      have HBI2 := HBI.out
      rw [rowL_len] at HBI2
      have hcells := HBI2.cell
      obtain ⟨hcell0, hcell1⟩ := hcells
      have HBI3 := Lib.hid HBI2
      clear hrow HBI2
      have HBR0 := Lib.hid HBR.out.lt
      cases hc0 : gnumB k f with
      | false =>
        have HF := Lib.hid (show grdB k f = false by unfold grdB; rw [hc0]; simp)
        have HC0 := Lib.hid hc0; clear hc0
        go_wp2_with fail
        refine (gnumbersOk_any g k c9 f h7 _ HROW.out hgl).mono ?_
        rintro e w6 ⟨rfl, hb6⟩
        replace HROW := Lib.hid (HROW.out.below hb6 hgl)
        replace HBI3 := Lib.hid (HBI3.out.kept hb6 HBI3.out.lt)
        replace HBR := Lib.hid (HBR.out.kept hb6 HBR.out.lt)
        replace HB := Lib.hid (HB.out.trans (hb6.mono (Nat.le_of_lt HBR0.out)))
        replace hgl := Nat.lt_of_lt_of_le hgl hb6.size
        clear hcell0 hcell1 hb6
        rw [HC0.out]
        obtain ⟨hcell0, hcell1⟩ := HBI3.out.cell
        obtain ⟨hres0, hres1⟩ := HBR.out.cell
        have hfz0 := HBR.out.frozen 0
        have hfz1 := HBR.out.frozen 1
        have HBR0 := Lib.hid HBR.out.lt
        go_wp2_with fail
        refine bodyPost_ret (results_ground rfl _ _ R ((HBR.out.set0 (.int .i64 0)).set1 (.slice none 0 0)) rfl rfl (by kernel_rfl)) rfl ?_
        exact ⟨by rw [← HRZ.out]; exact (HB.out.setCell (Nat.le_refl R) _).setCell (Nat.le_refl R) _, .inr ⟨HF.out, rfl⟩⟩
      | true =>
        have HC0 := Lib.hid hc0
        cases hc1 : gsymB k f with
        | false =>
          have HF := Lib.hid (show grdB k f = false by unfold grdB; rw [hc0, hc1]; simp)
          have HC1 := Lib.hid hc1; clear hc0 hc1
          go_wp2_with fail
          refine (gnumbersOk_any g k c9 f h7 _ HROW.out hgl).mono ?_
          rintro e w6 ⟨rfl, hb6⟩
          replace HROW := Lib.hid (HROW.out.below hb6 hgl)
          replace HBI3 := Lib.hid (HBI3.out.kept hb6 HBI3.out.lt)
          replace HBR := Lib.hid (HBR.out.kept hb6 HBR.out.lt)
          replace HB := Lib.hid (HB.out.trans (hb6.mono (Nat.le_of_lt HBR0.out)))
          replace hgl := Nat.lt_of_lt_of_le hgl hb6.size
          clear hcell0 hcell1 hb6
          rw [HC0.out]
          obtain ⟨hcell0, hcell1⟩ := HBI3.out.cell
          obtain ⟨hres0, hres1⟩ := HBR.out.cell
          have hfz0 := HBR.out.frozen 0
          have hfz1 := HBR.out.frozen 1
          have HBR0 := Lib.hid HBR.out.lt
          go_wp2_with fail
          refine (bothWaysOk_any g k c9 f h7 _ HROW.out hgl).mono ?_
          rintro e w6 ⟨rfl, hb6⟩
          replace HROW := Lib.hid (HROW.out.below hb6 hgl)
          replace HBI3 := Lib.hid (HBI3.out.kept hb6 HBI3.out.lt)
          replace HBR := Lib.hid (HBR.out.kept hb6 HBR.out.lt)
          replace HB := Lib.hid (HB.out.trans (hb6.mono (Nat.le_of_lt HBR0.out)))
          replace hgl := Nat.lt_of_lt_of_le hgl hb6.size
          clear hcell0 hcell1 hb6
          rw [HC1.out]
          obtain ⟨hcell0, hcell1⟩ := HBI3.out.cell
          obtain ⟨hres0, hres1⟩ := HBR.out.cell
          have hfz0 := HBR.out.frozen 0
          have hfz1 := HBR.out.frozen 1
          have HBR0 := Lib.hid HBR.out.lt
          go_wp2_with fail
          refine bodyPost_ret (results_ground rfl _ _ R ((HBR.out.set0 (.int .i64 0)).set1 (.slice none 0 0)) rfl rfl (by kernel_rfl)) rfl ?_
          exact ⟨by rw [← HRZ.out]; exact (HB.out.setCell (Nat.le_refl R) _).setCell (Nat.le_refl R) _, .inr ⟨HF.out, rfl⟩⟩
        | true =>
          have HF := Lib.hid (show grdB k f = true by unfold grdB; rw [hc0, hc1, decide_eq_true ⟨h1, h7⟩]; rfl)
          have HC1 := Lib.hid hc1; clear hc0 hc1
          go_wp2_with fail
          refine (gnumbersOk_any g k c9 f h7 _ HROW.out hgl).mono ?_
          rintro e w6 ⟨rfl, hb6⟩
          replace HROW := Lib.hid (HROW.out.below hb6 hgl)
          replace HBI3 := Lib.hid (HBI3.out.kept hb6 HBI3.out.lt)
          replace HBR := Lib.hid (HBR.out.kept hb6 HBR.out.lt)
          replace HB := Lib.hid (HB.out.trans (hb6.mono (Nat.le_of_lt HBR0.out)))
          replace hgl := Nat.lt_of_lt_of_le hgl hb6.size
          clear hcell0 hcell1 hb6
          rw [HC0.out]
          obtain ⟨hcell0, hcell1⟩ := HBI3.out.cell
          obtain ⟨hres0, hres1⟩ := HBR.out.cell
          have hfz0 := HBR.out.frozen 0
          have hfz1 := HBR.out.frozen 1
          have HBR0 := Lib.hid HBR.out.lt
          go_wp2_with fail
          refine (bothWaysOk_any g k c9 f h7 _ HROW.out hgl).mono ?_
          rintro e w6 ⟨rfl, hb6⟩
          replace HROW := Lib.hid (HROW.out.below hb6 hgl)
          replace HBI3 := Lib.hid (HBI3.out.kept hb6 HBI3.out.lt)
          replace HBR := Lib.hid (HBR.out.kept hb6 HBR.out.lt)
          replace HB := Lib.hid (HB.out.trans (hb6.mono (Nat.le_of_lt HBR0.out)))
          replace hgl := Nat.lt_of_lt_of_le hgl hb6.size
          clear hcell0 hcell1 hb6
          rw [HC1.out]
          obtain ⟨hcell0, hcell1⟩ := HBI3.out.cell
          obtain ⟨hres0, hres1⟩ := HBR.out.cell
          have hfz0 := HBR.out.frozen 0
          have hfz1 := HBR.out.frozen 1
          have HBR0 := Lib.hid HBR.out.lt
          go_wp2_with fail
          refine bodyPost_ret (results_ground rfl _ _ R ((HBR.out.set0 (.int .i64 (2 ^ k - 1))).set1 (.slice (some ⟨g, 0, none⟩) k c9)) rfl rfl (by kernel_rfl)) rfl ?_
          exact ⟨by rw [← HRZ.out]; exact (HB.out.setCell (Nat.le_refl R) _).setCell (Nat.le_refl R) _, .inl ⟨HF.out, g, c9, rfl, by rw [← HRZ.out]; omega, by simp [World.setCell]; exact hgl, fun i hi => by rw [World.cell?_setCell_other _ _ _ _ (by simp <;> omega), World.cell?_setCell_other _ _ _ _ (by simp <;> omega)]; exact HROW.out i hi⟩⟩
end Go.Proofs.Ytacoeaoaabjkoaa
