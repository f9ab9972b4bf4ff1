import Derived.Test.YtocjpolgghfbeaaDkC
import Derived.Laws.ResultCell
import Derived.Laws.Rows
namespace Go.Proofs.Ytocjpolgghfbeaa
set_option linter.unusedVariables false
set_option linter.unusedSimpArgs false
open Go.RowKit Go.Maps

theorem results_desk {fn : Func} {p u : Tmp} (h : fn.results = #[.cell p 26, .tmp u]) (tmps : Array Value) (w : World) (B : Nat) {x y z : Value} (hB : Blk2 w B 26 x y) (hp : tmps.getD p undef = .pointer (some ⟨B, 0, none⟩)) (hu : tmps.getD u undef = z)
    (hi : (Try.prog.info? 26).map (·.size) = some 2) :
    (results fn tmps).run Try.prog w = .ok (.tuple #[.agg #[x, y], z]) w := by
  rw [results_cell_tmp h, hp, hu]
  simp [asAddr, run_loadVar_row w B _ _ _ _ _ hB Try.underlying26 rfl hi, Result.andThen]

/-- a desk of one family, or none -/
def NewD (xs : List Int) (w : World) (e : Ending) (w' : World) : Prop :=
  ∃ v1 v2, e = .returned (.tuple #[.agg #[v1, v2], .bool (famL xs)]) ∧ GivesD (if famL xs then xs else []) [] w w' v1 v2
theorem noDesk_gives {w w' : World} (hb : Below w.heap.size w w') : GivesD [] [] w w' (.slice none 0 0) (.slice none 0 0) :=
  ⟨[], ⟨OwnX.nil _ _ _, Fams.none _ _ _, fun g hg => by simp [Value.ownBlock] at hg⟩, rfl, hb⟩
theorem oneDesk_gives {w w' : World} {v : Value} {xs : List Int} (h : OwnX w' w.heap.size 3 v xs) (hb : Below w.heap.size w w') : GivesD xs [] w w' v (.slice none 0 0) :=
  ⟨[], ⟨h, Fams.none _ _ _, fun g _ hf => by
    rcases hf with hf | ⟨r, hr, _⟩
    · simp [Value.ownBlock] at hf
    · cases hr⟩, rfl, hb⟩

set_option maxRecDepth 100000 in
set_option maxHeartbeats 1600000 in
theorem DeskNew_any (a : Option Addr) (xs : List Int) (c : Nat) (w : World) (hi : Ints w a xs.length (fun j => xs.getD j 0)) :
    Calls Try.prog 16 #[.slice a xs.length c] w (NewD xs w) := by
  have hal := alloc_below w (.cells #[.slice none 0 0, .slice none 0 0] 26)
  have hblk := Blk2.new w 26 (.slice none 0 0) (.slice none 0 0)
  have HI := Lib.hid (hi.below hal (Nat.le_refl _))
  have HAL := Lib.hid hal; have HBL := Lib.hid hblk; have HLT := Lib.hid hblk.lt
  clear hi hal hblk
  cases hf : famL xs with
  | false =>
    have HF := Lib.hid hf; clear hf
    go_enter Try.func16, Try.ntmps16
    go_wp2_with fail
    refine (FamilyOk_val a xs.length c (fun j => xs.getD j 0) false _ HF.out HI.out).mono ?_
    rintro e w1 ⟨rfl, hb⟩
    have HB := Lib.hid (below_onto HAL.out hb)
    have HB1 := Lib.hid (HBL.out.kept hb HLT.out)
    clear hb
    have hc0 := HB1.out.cell.1; have hc1 := HB1.out.cell.2; have hg0 := HB1.out.frozen 0; have hg1 := HB1.out.frozen 1
    go_wp2_with fail
    refine bodyPost_ret (results_desk rfl _ _ w.heap.size ((HB1.out.set0 (.slice none 0 0)).set1 (.slice none 0 0)) rfl rfl (by kernel_rfl)) rfl ?_
    unfold NewD
    rw [HF.out]
    refine ⟨_, _, rfl, ?_⟩
    exact noDesk_gives ((HB.out.setCell (Nat.le_refl _) _).setCell (Nat.le_refl _) _)
  | true =>
    have HF := Lib.hid hf
    have hlen := famL_len hf
    clear hf
    obtain ⟨b, o, rfl, hbl, hrow⟩ := HI.out.row hlen.1
    have HRW := Lib.hid hrow; have HLB := Lib.hid hbl
    clear hrow hbl
    go_enter Try.func16, Try.ntmps16
    go_wp2_with fail
    refine (FamilyOk_val _ xs.length c (fun j => xs.getD j 0) true _ HF.out HI.out).mono ?_
    rintro e w1 ⟨rfl, hb⟩
    have HB := Lib.hid (below_onto HAL.out hb)
    have HB1 := Lib.hid (HBL.out.kept hb HLT.out)
    have HR1 := Lib.hid (HRW.out.below hb HLB.out)
    have HS1 := Lib.hid hb.size
    clear hb
    go_wp2_with fail
    refine (cloneI_any b o xs.length c (fun j => xs.getD j 0) hlen.1 (by omega) _ HR1.out (Nat.lt_of_lt_of_le HLB.out HS1.out)).mono ?_
    rintro e w2 ⟨v, rfl, hown, hb⟩
    rw [famL_get] at hown
    obtain ⟨va, vc, rfl⟩ := hown.slice
    have HB2 := Lib.hid (HB1.out.kept hb HB1.out.lt)
    have HBB := Lib.hid (HB.out.trans (hb.mono HB.out.size))
    have HOW := Lib.hid ((hown.other (w' := (w2.setCell ⟨w.heap.size, 0, none⟩ (.slice va xs.length vc)).setCell ⟨w.heap.size, 1, none⟩ (.slice none 0 0)) (fun g _ hBg _ => by
      have hne : g ≠ w.heap.size := by have := HB1.out.lt; omega
      exact (Below.heap_setCell _ ⟨w.heap.size, 1, none⟩ _ g hne).trans (Below.heap_setCell _ ⟨w.heap.size, 0, none⟩ _ g hne))).base HB.out.size)
    clear hown hb
    have hc0 := HB2.out.cell.1; have hc1 := HB2.out.cell.2; have hg0 := HB2.out.frozen 0; have hg1 := HB2.out.frozen 1
    go_wp2_with fail
    refine bodyPost_ret (results_desk rfl _ _ w.heap.size ((HB2.out.set0 (.slice va xs.length vc)).set1 (.slice none 0 0)) rfl rfl (by kernel_rfl)) rfl ?_
    unfold NewD
    rw [HF.out]
    refine ⟨_, _, rfl, ?_⟩
    exact oneDesk_gives HOW.out ((HBB.out.setCell (Nat.le_refl _) _).setCell (Nat.le_refl _) _)
end Go.Proofs.Ytocjpolgghfbeaa
