import Derived.Test.YtibjdmmcnhlgnaaPlD
import Derived.RangeFuncNested
import Derived.RangeFuncBound
import Derived.RangeFuncCalls
import Derived.RangeFuncLeaves
import Derived.Shelf.Abstract
import Derived.Shelf.RegionOpen
import Derived.WalkKit
import Derived.OwnWalkIn
import Derived.TacticsInMore
import Derived.LoopNIn
import Derived.LoopIn
namespace Go.Proofs.Ytibjdmmcnhlgnaa
set_option linter.unusedVariables false
set_option linter.unusedSimpArgs false
open Go.RowKit Go.Maps
attribute [local go_sem] Oper.semAt_some

set_option maxRecDepth 100000 in
set_option maxHeartbeats 4000000 in
/-- the iterator: it yields each ship that a change makes, and what is taken out -/
theorem changesC_in (N l A0 A1 g0 o0 n c m c2 B : Nat) (b : Option Addr) (f P Q : Nat → Int) (hs : shipB n f = true) (R : Nat → Prop) (J : List Shp → (Nat → Prop) → World → Prop) (W : World)
    (hJ : AbideT W.heap.size J)
    (hY : ∀ pre x T W1, J pre T W1 → pre.length < m → ShpAt n f P Q B x T W1 → YieldAt Fence.wide (N - 1) Try.prog l (encS n f P Q x) W1 fun e W' =>
      e = .returned (.bool true) ∧ J (pre ++ [x]) T W' ∧ W1.heap.size ≤ W'.heap.size ∧ ∀ k, T k ∨ R k → W'.heap[k]? = W1.heap[k]?)
    (hA0 : Boxed W A0 23 (.slice (some ⟨g0, o0, none⟩) n c)) (hA1 : Boxed W A1 42 (.slice b m c2)) (hc : n ≤ c) (hr : Row W g0 o0 n f) (hg0 : g0 < W.heap.size) (hRg : R g0)
    (hp : Prs W b m P Q) (hRb : ∀ q o, b = some ⟨q, o, none⟩ → 1 ≤ m → R q) (hRl : ∀ i, R i → i < W.heap.size) (hB : B ≤ W.heap.size) (h0 : J [] (fun _ => False) W) :
    CallsIn Fence.wide N Try.prog 70 #[.func (.yield l) #[] #[], .pointer (some ⟨A0, 0, none⟩), .pointer (some ⟨A1, 0, none⟩)] W fun e W' => (∃ v, e = .returned v) ∧
      ∃ xs T, ShpAll n f P Q m B xs T W' ∧ J xs T W' := by
  have HE := Lib.hid (enters_of (P := Try.prog) Try.func76 (by kernel_rfl) rfl)
  have hca0 := hA0.cell
  have hA1' : Boxed (W.alloc (.cells #[.slice (some ⟨g0, o0, none⟩) n c] 23)) A1 42 (.slice b m c2) := hA1.alloc _
  have hca1 := hA1'.cell
  have HY := Lib.hid hY; have HJ := Lib.hid hJ; have HP := Lib.hid hp; have HRL := Lib.hid hRl; have HRB := Lib.hid hRb; have HS := Lib.hid hs
  have hal := alloc_below W (.cells #[.slice (some ⟨g0, o0, none⟩) n c] 23)
  have HI0 : Hid (ItS n f P Q B W.heap.size 0 R J [] (TNew (fun _ => False) W (W.alloc (.cells #[.slice (some ⟨g0, o0, none⟩) n c] 23))) W (W.alloc (.cells #[.slice (some ⟨g0, o0, none⟩) n c] 23))) := Lib.hid
    ⟨ShpAll.none _ _ _ _ _ _ _, (fun _ h => by cases h), hJ _ _ _ _ _ h0 (mvd_of_below hal) (fun i hi => hi), .inr ⟨Nat.le_refl _, by rw [alloc_size]; omega⟩,
      ⟨g0, o0, c, ⟨Boxed.new W _ _, hr.below hal hg0, by rw [alloc_size]; omega, hc⟩, .inr hRg, by omega⟩, (fun i hi => by rcases hi with hi | hi; exact hi.elim; exact hi), (fun i hi => hal.block i (hRl i hi)), by rw [alloc_size]; omega⟩
  have HBS := Lib.hid hB
  have hmx := HP.out.1.1
  clear hY hJ hp hRl hRb hr hg0 hRg h0 hal hB hc hs hA0 hA1 hA1'
  refine callsIn_of_wp Try.func70 rfl trivial ?_ rfl
  simp only [Try.ntmps70, List.size_toArray, List.length_cons, List.length_nil, Nat.reduceAdd, Nat.reduceSub, Array.replicate_succ, Array.replicate_zero, List.push_toArray, List.append_toArray, List.nil_append, List.cons_append]
  gi_wp2_with fail
  refine ⟨trivial, (fun h => by cases h), (callsIn_wide.2 (changing_any _ _ _ _)).mono ?_⟩
  rintro e w' ⟨rfl, rfl⟩
  gi_wp2_with fail
  gi_loopw [6, 7, 8, 9, 14] (fun _ _ _ _ i wr => ∃ k : Nat, k ≤ m ∧ i = .int .i64 k ∧ ∃ xs T, Hid (ItS n f P Q B W.heap.size k R J xs T W wr)) (fun _ _ _ _ i _ => m - (intOf i).toNat)
  case atStart => exact ⟨0, Nat.zero_le _, rfl, _, _, HI0⟩
  case round =>
    obtain ⟨k, hk, rfl, xs, T, hI⟩ := hrel
    clear hca0 hca1 HI0
    by_cases hlt : k < m
    · have hki : (k : Int) < (m : Int) := by omega
      have hk0 : (0 : Int) ≤ (k : Int) := by omega
      obtain ⟨q, o, rfl, hql, hrow⟩ := HP.out.row (by omega)
      have hRq := HRB.out q o rfl (by omega)
      have hrw := hrow.same (hI.out.keep q hRq)
      obtain ⟨hc0, hc1⟩ := hrw k hlt
      clear hrw hrow hql hRq
      have hal := alloc_below wr (.cells #[.int .i64 (P k), .int .i64 (Q k)] 36)
      have HBX := Lib.hid (Blk2.new wr 36 (.int .i64 (P k)) (.int .i64 (Q k)))
      obtain ⟨hq0, hq1⟩ := HBX.out.cell
      have HSH := Lib.hid (now_ship (P := P) (Q := Q) HS.out k)
      obtain ⟨g, o2, c3, hbf, _, _⟩ := hI.out.bf
      have HBF := Lib.hid (hbf.kept hal)
      have HAL := Lib.hid hal
      have hen := HE.out
      clear hal hbf
      gi_wp2_with fail
      refine ⟨trivial, (fun h => by cases h), (callsIn_wide.2 (changingC_any W.heap.size g o2 n c3 (nowF n f P Q k) (P k) (Q k) HSH.out _ HBF.out)).mono ?_⟩
      rintro e w4 (⟨hok, rfl, hb4⟩ | ⟨hok, g2, c4, rfl, hg2, hown, hbf4, ho4⟩)
      · have HI2 := Lib.hid (hI.out.no HJ.out HRL.out hok (HAL.out.trans (hb4.mono HAL.out.size)))
        clear hok hb4 hq0 hq1 hc0 hc1
        gi_wp2_with fail
        refine ⟨fun _ h => (by cases h), ?_⟩
        gi_wp2_with fail
        go_roundw
        case rel => exact ⟨k + 1, by omega, by go_num, _, _, HI2⟩
        case measure => simp [intOf]; omega
      · have HY2 := Lib.hid (hI.out.yes HJ.out HRL.out HBS.out hok ((Only.of_below HAL.out).trans ho4) (Nat.le_trans HAL.out.size hg2) (hown.base HAL.out.size) hbf4)
        clear hok hown hbf4 ho4 hg2 hq0 hq1 hc0 hc1
        obtain ⟨fn, tmps, assign, body, hy, hR⟩ := HY.out xs ⟨g2, c4, k⟩ _ w4 HY2.out.j (by have := HY2.out.all.len; rw [List.length_append] at this; have h2 := dn_len n f P Q (k + 1); simp at this; omega) HY2.out.hx
        dsimp only [encS, Shp.v, outI] at hy
        gi_wp2_with fail
        refine ⟨(fun h => by cases h), hR.mono ?_⟩
        rintro e w5 ⟨rfl, hj5, hs5, hk5⟩
        have HI2 := Lib.hid (HY2.out.next hj5 hs5 hk5)
        clear hj5 hs5 hk5 hy hR
        gi_wp2_with fail
        go_roundw
        case rel => exact ⟨k + 1, by omega, by go_num, _, _, HI2⟩
        case measure => simp [intOf]; omega
    · have hki : ¬ (k : Int) < (m : Int) := by omega
      have hkn : k = m := by omega
      subst hkn
      gi_wp2_with fail
      go_end0
      exact ⟨⟨_, rfl⟩, xs, T, hI.out.all, hI.out.j⟩

theorem changesC_stops (N A0 A1 g0 o0 n c m c2 : Nat) (b : Option Addr) (f P Q : Nat → Int) (hs : shipB n f = true) (R : Nat → Prop) (w : World)
    (hA0 : Boxed w A0 23 (.slice (some ⟨g0, o0, none⟩) n c)) (hA1 : Boxed w A1 42 (.slice b m c2)) (hc : n ≤ c) (hr : Row w g0 o0 n f) (hg0 : g0 < w.heap.size) (hRg : R g0)
    (hp : Prs w b m P Q) (hRb : ∀ q o, b = some ⟨q, o, none⟩ → 1 ≤ m → R q) (hRl : ∀ i, R i → i < w.heap.size) :
    SeqT Fence.wide N Try.prog 70 #[.pointer (some ⟨A0, 0, none⟩), .pointer (some ⟨A1, 0, none⟩)] (encS n f P Q) R (ShpAt n f P Q w.heap.size) (ShpAll n f P Q m w.heap.size) m w := fun l J W hW hJ hY h0 =>
  changesC_in N l A0 A1 g0 o0 n c m c2 w.heap.size b f P Q hs R J W (hJ _ (Nat.le_refl _)) hY ((hW.block _ hA0.lt).trans hA0) ((hW.block _ hA1.lt).trans hA1) hc (hr.below hW hg0) (Nat.lt_of_lt_of_le hg0 hW.size) hRg (hp.next hW) hRb
    (fun i hi => Nat.lt_of_lt_of_le (hRl i hi) hW.size) hW.size h0
end Go.Proofs.Ytibjdmmcnhlgnaa
