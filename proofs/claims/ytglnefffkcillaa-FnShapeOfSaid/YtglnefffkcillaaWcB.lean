import Derived.Test.YtglnefffkcillaaWcA
import Derived.Lib.AppendZeros
namespace Go.Proofs.Ytglnefffkcillaa
set_option linter.unusedVariables false
set_option linter.unusedSimpArgs false
open Go.RowKit Go.Maps

set_option maxRecDepth 100000 in
set_option maxHeartbeats 1600000 in
theorem grow_any (m : Nat) (h1 : 1 ≤ m) (hm : m ≤ 100) (w : World) :
    Calls Try.prog 111 #[.slice none 0 0, .int .i64 m] w (Gives 3 [] w) := by
  obtain ⟨i0, hi, hz0, hz1, hz2⟩ := info_parts Try.infoInt
  have hr := fun ty => Lib.run_append_nil_zeros (P := Try.prog) w 23 3 ty 3 i0 (.int .i64 0) .i64 .i64 Try.underlying23 Try.underlying3 hi hz0 m h1 (by rw [hz1]; omega) (by omega) (by rw [hz2]; omega)
  have hG1 := grownCap_ge w m 0 3
  have hG2 := grownCap_le_maxLen w m 0 3 (by unfold maxLen; omega)
  obtain ⟨G, hG⟩ : ∃ G, grownCap w m 0 3 = G := ⟨_, rfl⟩
  rw [hG] at hr hG1 hG2
  obtain ⟨ROW, hR⟩ : ∃ ROW : Array Value, Builtin.zeroCells (Value.int .i64 0).cells m ++ Builtin.zeroCells (Value.int .i64 0).cells (G - m) = ROW := ⟨_, rfl⟩
  have hsz : ROW.size = G * 1 := by
    rw [← hR]
    simp [Builtin.zeroCells, Value.cells]
    omega
  rw [hR] at hr
  clear hR hG
  have hw1 : IntKind.i64.wrap (m : Int) = (m : Int) := by rw [IntKind.wrap_i64]; omega
  have hm0 : (0 : Int) < (m : Int) := by omega
  have hmn : ¬ ((m : Int) < 0) := by omega
  have hown : OwnX (w.drew.alloc (.cells ROW 3)) w.heap.size 3 (.slice (some ⟨w.heap.size, 0, none⟩) 0 G) [] := World.ownsRow_made w.drew ROW G (Nat.le_refl _) hG2 hsz
  have hb : Below w.heap.size w (w.drew.alloc (.cells ROW 3)) := ((Below.refl _ w).drew).alloc (Nat.le_refl _) _
  have HO := Lib.hid hown; have HB := Lib.hid hb
  have hmM : (m : Int) ≤ (G : Int) := by omega
  clear hown hb hsz
  go_enter Try.func111, Try.ntmps111
  go_wp2_with (at_builtin; refine Lib.wpList_append_run _ rfl _ _ _ _ rfl _ _ rfl rfl _ _ (hr _) ?_)
  go_ret
  exact ⟨_, rfl, HO.out, HB.out⟩

/-- nothing behind what is empty -/
theorem run_append_no (w : World) (ty : TypeId) (a : Option Addr) (c : Nat) : (Builtin.append_ #[23, 23] ty #[.slice a 0 c, .slice none 0 0]).run Try.prog w = .ok (.slice a 0 c) w := by
  obtain ⟨i0, hi, hz0, hz1, hz2⟩ := info_parts Try.infoInt
  cases a <;> simp [Builtin.append_, storeCells, Builtin.lenOf, Builtin.firstCells, Result.andThen, run_underlying Try.underlying23, sizeOf, typeInfo, zeroValue, hi, hz0, hz1]

/-- how long they are together, and what has been joined -/
def ccN (n k : Nat) : Nat := if k = 0 then 0 else if k = 1 then n else n + 1
def ccL (n : Nat) (f : Nat → Int) (x : Int) (k : Nat) : List Int := if k = 0 then [] else if k = 1 then rowL f n else rowL f n ++ [x]

set_option maxRecDepth 100000 in
set_option maxHeartbeats 3200000 in
/-- a row, and a number behind it, joined in memory of one's own -/
theorem concat_row (S g g1 o n c c2 : Nat) (f : Nat → Int) (x : Int) (h1 : 1 ≤ n) (hn : n ≤ 50) (w : World) (hS : Blk2 w S 23 (.slice (some ⟨g, o, none⟩) n c) (.slice (some ⟨g1, 0, none⟩) 1 c2)) (hx : Row w g1 0 1 (fun _ => x)) (hg1 : g1 < w.heap.size) (hr : Row w g o n f) (hg : g < w.heap.size) :
    Calls Try.prog 88 #[.slice (some ⟨S, 0, none⟩) 2 2] w (Gives 3 (rowL f n ++ [x]) w) := by
  obtain ⟨i0, hi, hz0, hz1, hz2⟩ := info_parts Try.infoInt
  obtain ⟨hc0, hc1⟩ := hS.cell
  have hn0 : ¬ ((n : Int) < 0) := by omega
  have hn1 : ¬ ((n : Int) + 1 < 0) := by omega
  have hw0 : IntKind.i64.wrap (n : Int) = (n : Int) := by rw [IntKind.wrap_i64]; omega
  have hw1 : IntKind.i64.wrap ((n : Int) + 1) = ((n + 1 : Nat) : Int) := by rw [IntKind.wrap_i64]; omega
  have HSB := Lib.hid hS; have HX := Lib.hid hx; have HR := Lib.hid hr
  have hSl := hS.lt
  clear hS hx hr
  go_enter Try.func88, Try.ntmps88
  go_wp2_with fail
  go_loopw [3, 5, 11] (fun vs _ vi wr => ∃ k : Nat, k ≤ 2 ∧ vi = .int .i64 k ∧ vs = .int .i64 (ccN n k : Nat) ∧ w = wr) (fun _ _ vi _ => 2 - (intOf vi).toNat)
  case atStart => exact ⟨0, by omega, rfl, rfl, rfl⟩
  case round =>
    obtain ⟨k, hk, rfl, rfl, rfl⟩ := hrel
    match k, hk with
    | 0, _ =>
      simp only [ccN, if_true]
      go_wp2_with fail
      go_roundw
      case rel => exact ⟨1, by omega, rfl, rfl, by first | rfl | trivial⟩
      case measure => simp [intOf]
    | 1, _ =>
      simp only [ccN, if_true, Nat.one_ne_zero, if_false]
      go_wp2_with fail
      go_roundw
      case rel => exact ⟨2, by omega, rfl, rfl, by first | rfl | trivial⟩
      case measure => simp [intOf]
    | 2, _ =>
      simp only [ccN, if_true, if_false, show ¬ (2 : Nat) = 0 by omega, show ¬ (2 : Nat) = 1 by omega]
      clear hc0 hc1
      go_wp2_with fail
      refine (grow_any (n + 1) (by omega) (by omega) w).mono ?_
      rintro e w1 ⟨v1, rfl, ho1, hb1⟩
      obtain ⟨a1, cap1, rfl⟩ := ho1.slice
      have HO1 := Lib.hid ho1; have HB1 := Lib.hid hb1
      clear ho1 hb1
      go_wp2_with fail
      go_loopw [6, 8, 27] (fun vs _ vi wr => ∃ k : Nat, k ≤ 2 ∧ vi = .int .i64 k ∧ Hid (OwnX wr w.heap.size 3 vs (ccL n f x k)) ∧ Hid (Below w.heap.size w wr)) (fun _ _ vi _ => 2 - (intOf vi).toNat)
      case atStart => exact ⟨0, by omega, rfl, HO1, HB1⟩
      case round =>
        obtain ⟨k, hk, rfl, hown, hbel⟩ := hrel
        clear HO1 HB1
        obtain ⟨a9, c9, rfl⟩ := hown.out.slice
        have hsz := hbel.out.size
        match k, hk with
        | 0, _ =>
          obtain ⟨hc0, hc1⟩ := (HSB.out.kept hbel.out hSl).cell
          have HO : Hid (wr.ownsRow w.heap.size 3 1 (.slice a9 0 c9) 0 []) := Lib.hid hown.out
          have k1 := Lib.hid (rowV_cells (HR.out.below hbel.out hg))
          have k2 := Lib.hid (rowV_one f n)
          have k3 : Hid (0 + n ≤ maxLen) := Lib.hid (by unfold maxLen; omega)
          have k4 : Hid ((0 + n) * 8 ≤ 140737488355328) := Lib.hid (by omega)
          have k5 : Hid (w.heap.size ≤ wr.heap.size) := Lib.hid hsz
          have k6 : Hid ((rowV f n).length = n * 1) := Lib.hid (by rw [rowV_len]; omega)
          simp only [ccL, if_true, List.length_nil]
          go_wp2_with (at_builtin; refine wpList_append_own _ rfl (.tmp 31) (.tmp 32) 23 rfl w.heap.size 3 i0 (.int .i64 0) 1 8 Try.underlying23 hi hz0 hz1 hz2 rfl (by decide) _ _ _ rfl HO.out ⟨g, o, none⟩ n c (rowV f n) rfl k6.out k1.out k2.out k3.out k4.out k5.out ?_)
          intro v' w5 hown' hgrow _
          have hg5 : Below w.heap.size w w5 := hbel.out.grown hgrow k5.out (fun q hq => (HO.out.lt q hq).1)
          have HO5 := Lib.hid (show OwnX w5 w.heap.size 3 v' (ccL n f x 1) by
            simp only [ccL, if_true, Nat.one_ne_zero, if_false]
            refine OwnX.rowV ?_
            simpa using hown')
          have HG5 := Lib.hid hg5
          clear hown' hgrow hg5
          go_wp2_with fail
          go_roundw
          case rel => exact ⟨1, by omega, rfl, HO5, HG5⟩
          case measure => simp [intOf]
        | 1, _ =>
          obtain ⟨hc0, hc1⟩ := (HSB.out.kept hbel.out hSl).cell
          have hl : (ccL n f x 1).length = n := by simp [ccL, rowL_len]
          have HO : Hid (wr.ownsRow w.heap.size 3 1 (.slice a9 n c9) n ((rowL f n).map (Value.int .i64))) := Lib.hid (by have := hown.out; unfold OwnX at this; rw [hl] at this; simpa [ccL] using this)
          have k1 : Hid (∀ j u, [Value.int .i64 x][j]? = some u → wr.cell? ((⟨g1, 0, none⟩ : Addr).add j) = some u) := Lib.hid (rowV_cells (f := fun _ => x) (n := 1) (HX.out.below hbel.out hg1))
          have k2 : Hid (∀ u ∈ [Value.int .i64 x], u.oneCell' = true) := Lib.hid (by intro u hu; simp at hu; subst hu; rfl)
          have k3 : Hid (n + 1 ≤ maxLen) := Lib.hid (by unfold maxLen; omega)
          have k4 : Hid ((n + 1) * 8 ≤ 140737488355328) := Lib.hid (by omega)
          have k5 : Hid (w.heap.size ≤ wr.heap.size) := Lib.hid hsz
          rw [hl]
          go_wp2_with (at_builtin; refine wpList_append_own _ rfl (.tmp 31) (.tmp 32) 23 rfl w.heap.size 3 i0 (.int .i64 0) 1 8 Try.underlying23 hi hz0 hz1 hz2 rfl (by decide) _ _ _ rfl HO.out ⟨g1, 0, none⟩ 1 c2 [.int .i64 x] rfl rfl k1.out k2.out k3.out k4.out k5.out ?_)
          intro v' w5 hown' hgrow _
          have hg5 : Below w.heap.size w w5 := hbel.out.grown hgrow k5.out (fun q hq => (HO.out.lt q hq).1)
          have HO5 := Lib.hid (show OwnX w5 w.heap.size 3 v' (ccL n f x 2) by
            simp only [ccL, if_false, show ¬ (2 : Nat) = 0 by omega, show ¬ (2 : Nat) = 1 by omega]
            refine OwnX.snoc ?_
            rw [rowL_len]
            exact hown')
          have HG5 := Lib.hid hg5
          clear hown' hgrow hg5
          go_wp2_with fail
          go_roundw
          case rel => exact ⟨2, by omega, rfl, HO5, HG5⟩
          case measure => simp [intOf]
        | 2, _ =>
          have hl : (ccL n f x 2).length = n + 1 := by simp [ccL, rowL_len]
          have HO5 := Lib.hid (show OwnX wr w.heap.size 3 (.slice a9 (ccL n f x 2).length c9) (rowL f n ++ [x]) from hown.out)
          go_wp2_with fail
          go_ret
          exact ⟨_, rfl, HO5.out, hbel.out⟩
    | k + 3, hk => omega

set_option maxRecDepth 100000 in
set_option maxHeartbeats 3200000 in
/-- a number behind nothing -/
theorem concat_nil (S g1 c2 : Nat) (x : Int) (w : World) (hS : Blk2 w S 23 (.slice none 0 0) (.slice (some ⟨g1, 0, none⟩) 1 c2)) (hx : Row w g1 0 1 (fun _ => x)) (hg1 : g1 < w.heap.size) :
    Calls Try.prog 88 #[.slice (some ⟨S, 0, none⟩) 2 2] w (Gives 3 [x] w) := by
  obtain ⟨i0, hi, hz0, hz1, hz2⟩ := info_parts Try.infoInt
  obtain ⟨hc0, hc1⟩ := hS.cell
  have HSB := Lib.hid hS; have HX := Lib.hid hx
  have hSl := hS.lt
  clear hS hx
  go_enter Try.func88, Try.ntmps88
  go_wp2_with fail
  go_loopw [3, 5, 11] (fun vs _ vi wr => ∃ k : Nat, k ≤ 2 ∧ vi = .int .i64 k ∧ vs = .int .i64 (ccN 0 k : Nat) ∧ w = wr) (fun _ _ vi _ => 2 - (intOf vi).toNat)
  case atStart => exact ⟨0, by omega, rfl, rfl, rfl⟩
  case round =>
    obtain ⟨k, hk, rfl, rfl, rfl⟩ := hrel
    match k, hk with
    | 0, _ =>
      simp only [ccN, if_true]
      go_wp2_with fail
      go_roundw
      case rel => exact ⟨1, by omega, rfl, rfl, by first | rfl | trivial⟩
      case measure => simp [intOf]
    | 1, _ =>
      simp only [ccN, if_true, Nat.one_ne_zero, if_false]
      go_wp2_with fail
      go_roundw
      case rel => exact ⟨2, by omega, rfl, rfl, by first | rfl | trivial⟩
      case measure => simp [intOf]
    | 2, _ =>
      simp only [ccN, if_true, if_false, show ¬ (2 : Nat) = 0 by omega, show ¬ (2 : Nat) = 1 by omega]
      clear hc0 hc1
      go_wp2_with fail
      refine (grow_any 1 (by omega) (by omega) w).mono ?_
      rintro e w1 ⟨v1, rfl, ho1, hb1⟩
      obtain ⟨a1, cap1, rfl⟩ := ho1.slice
      have HO1 := Lib.hid ho1; have HB1 := Lib.hid hb1
      clear ho1 hb1
      go_wp2_with fail
      go_loopw [6, 8, 27] (fun vs _ vi wr => ∃ k : Nat, k ≤ 2 ∧ vi = .int .i64 k ∧ Hid (OwnX wr w.heap.size 3 vs (ccL 0 (fun _ => 0) x k)) ∧ Hid (Below w.heap.size w wr)) (fun _ _ vi _ => 2 - (intOf vi).toNat)
      case atStart => exact ⟨0, by omega, rfl, HO1, HB1⟩
      case round =>
        obtain ⟨k, hk, rfl, hown, hbel⟩ := hrel
        clear HO1 HB1
        obtain ⟨a9, c9, rfl⟩ := hown.out.slice
        have hsz := hbel.out.size
        match k, hk with
        | 0, _ =>
          obtain ⟨hc0, hc1⟩ := (HSB.out.kept hbel.out hSl).cell
          simp only [ccL, if_true, List.length_nil]
          have HO5 : Hid (OwnX wr w.heap.size 3 (.slice a9 0 c9) (ccL 0 (fun _ => 0) x 1)) := hown
          have hra := fun ty => run_append_no wr ty a9 c9
          go_wp2_with (at_builtin; refine Lib.wpList_append_run _ rfl _ _ _ _ rfl _ _ rfl rfl _ _ (hra _) ?_)
          go_roundw
          case rel => exact ⟨1, by omega, rfl, HO5, hbel⟩
          case measure => simp [intOf]
        | 1, _ =>
          obtain ⟨hc0, hc1⟩ := (HSB.out.kept hbel.out hSl).cell
          have HO : Hid (wr.ownsRow w.heap.size 3 1 (.slice a9 0 c9) 0 []) := Lib.hid hown.out
          have k1 : Hid (∀ j u, [Value.int .i64 x][j]? = some u → wr.cell? ((⟨g1, 0, none⟩ : Addr).add j) = some u) := Lib.hid (rowV_cells (f := fun _ => x) (n := 1) (HX.out.below hbel.out hg1))
          have k2 : Hid (∀ u ∈ [Value.int .i64 x], u.oneCell' = true) := Lib.hid (by intro u hu; simp at hu; subst hu; rfl)
          have k3 : Hid (0 + 1 ≤ maxLen) := Lib.hid (by unfold maxLen; omega)
          have k4 : Hid ((0 + 1) * 8 ≤ 140737488355328) := Lib.hid (by omega)
          have k5 : Hid (w.heap.size ≤ wr.heap.size) := Lib.hid hsz
          have hl : (ccL 0 (fun _ => 0) x 1).length = 0 := rfl
          rw [hl]
          go_wp2_with (at_builtin; refine wpList_append_own _ rfl (.tmp 31) (.tmp 32) 23 rfl w.heap.size 3 i0 (.int .i64 0) 1 8 Try.underlying23 hi hz0 hz1 hz2 rfl (by decide) _ _ _ rfl HO.out ⟨g1, 0, none⟩ 1 c2 [.int .i64 x] rfl rfl k1.out k2.out k3.out k4.out k5.out ?_)
          intro v' w5 hown' hgrow _
          have hg5 : Below w.heap.size w w5 := hbel.out.grown hgrow k5.out (fun q hq => (HO.out.lt q hq).1)
          have HO5 := Lib.hid (show OwnX w5 w.heap.size 3 v' (ccL 0 (fun _ => 0) x 2) from hown')
          have HG5 := Lib.hid hg5
          clear hown' hgrow hg5
          go_wp2_with fail
          go_roundw
          case rel => exact ⟨2, by omega, rfl, HO5, HG5⟩
          case measure => simp [intOf]
        | 2, _ =>
          have HO5 := Lib.hid (show OwnX wr w.heap.size 3 (.slice a9 (ccL 0 (fun _ => 0) x 2).length c9) [x] from hown.out)
          go_wp2_with fail
          go_ret
          exact ⟨_, rfl, HO5.out, hbel.out⟩
    | k + 3, hk => omega
end Go.Proofs.Ytglnefffkcillaa
