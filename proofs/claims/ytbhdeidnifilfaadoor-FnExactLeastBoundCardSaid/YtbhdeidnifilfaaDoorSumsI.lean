import Derived.RangeFuncNested
import Derived.RangeFuncBound
import Derived.RangeFuncCalls
import Derived.RangeFuncLeaves
import Derived.Shelf.Abstract
import Derived.Shelf.RegionOpen
import Derived.WalkKit
import Derived.OwnWalkIn
import Derived.TacticsInMore
import Derived.LoopNIn
import Derived.LoopIn
import Derived.Test.YtbhdeidnifilfaaDoorSumsA
namespace Go.Proofs.YtbhdeidnifilfaaDoor
open Go.RowKit Go.Shelf
attribute [local go_sem] Oper.semAt_some

/-- a number of a thing -/
abbrev Th := { x : Nat // x < 7 }
/-- what has come: the sums below k -/
def Came (g : Nat → Bool) (k : Nat) (xs : List Th) : Prop := xs.map (fun x => x.1) = (List.range k).filter g

theorem Came.none (g : Nat → Bool) : Came g 0 [] := rfl
theorem Came.yes {g : Nat → Bool} {k : Nat} {xs : List Th} (h : Came g k xs) (hk : k < 7) (hg : g k = true) : Came g (k + 1) (xs ++ [⟨k, hk⟩]) := by
  unfold Came at h ⊢
  rw [List.map_append, h, List.range_succ, List.filter_append]
  simp [hg]
theorem Came.no {g : Nat → Bool} {k : Nat} {xs : List Th} (h : Came g k xs) (hg : g k = false) : Came g (k + 1) xs := by
  unfold Came at h ⊢
  rw [h, List.range_succ, List.filter_append]
  simp [hg]
theorem Came.len {g : Nat → Bool} {k : Nat} {xs : List Th} (h : Came g k xs) : xs.length ≤ k := by
  unfold Came at h
  have h1 : xs.length = ((List.range k).filter g).length := by rw [← h, List.length_map]
  have h2 := List.length_filter_le g (List.range k)
  rw [List.length_range] at h2
  omega

theorem grown_of_below {W W' : World} (h : Below W.heap.size W W') : W.grownBy W' none :=
  ⟨h.os, h.tape, h.output, h.size, fun k hk _ => h.block k hk⟩

/-- what a round keeps: what lies below n₀, and the iterator's own variable -/
def Kept (n₀ Bp : Nat) (W W' : World) : Prop := Below n₀ W W' ∧ W'.cell? ⟨Bp, 0, none⟩ = W.cell? ⟨Bp, 0, none⟩
theorem Kept.of {n₀ Bp : Nat} {W W' : World} (h : Below W.heap.size W W') (hn : n₀ ≤ W.heap.size) (hB : Bp < W.heap.size) : Kept n₀ Bp W W' := ⟨h.mono hn, h.cell (p := ⟨Bp, 0, none⟩) hB⟩
theorem Kept.on {n₀ Bp : Nat} {A B C : World} (h : Kept n₀ Bp A B) (k : Kept n₀ Bp B C) : Kept n₀ Bp A C := ⟨h.1.trans k.1, k.2.trans h.2⟩
theorem kept_b {n₀ Bp : Nat} {w : World} (hn : n₀ ≤ w.heap.size) (hB : Bp < w.heap.size) (W : World) (l : Nat) (o o' : Obj) (hl : w.heap.size ≤ l) (h : W.heap[l]? = some o) (h1 : o.isCells = false) (h2 : o.isWalk = false) : Kept n₀ Bp W (W.putObj l o') :=
  ⟨belowK_b hn W l o o' hl h h1 h2, (belowK_b (n₀ := w.heap.size) (Nat.le_refl _) W l o o' hl h h1 h2).cell (p := ⟨Bp, 0, none⟩) hB⟩

theorem sums_any (v : Option Addr) (n cap : Nat) (s : Int) (w : World) :
    Calls Tryd.prog 25 #[.slice v n cap, .int .i64 s] w fun e w' => e = .returned (.func (.func 39) #[] #[.pointer (some ⟨w.heap.size, 0, none⟩), .pointer (some ⟨w.heap.size + 1, 0, none⟩)]) ∧
      w' = (w.alloc (.cells #[.slice v n cap] 39)).alloc (.cells #[.int .i64 s] 40) := by
  go_enter Tryd.func25, Tryd.ntmps25
  go_wp2_with fail
  go_ret
  exact ⟨rfl, rfl⟩

set_option maxRecDepth 100000 in
set_option maxHeartbeats 4000000 in
/-- the iterator: it yields the sums in their order -/
theorem sumsC_in (N l Bp Bq n₀ bk n cap : Nat) (f : Nat → Int) (s : Int) (hn : n ≤ 7) (hbk : bk < n₀) (J Jx : List Th → World → Prop) (W : World) (hn₀ : n₀ ≤ W.heap.size) (hBp : Bp < W.heap.size) (hJ : AbidesFrom W.heap.size J)
    (hY : ∀ pre x W, J pre W → pre.length < n → YieldAt Fence.wide (N - 1) Tryd.prog l #[.int .i64 (x.1 : Int)] W fun e W' =>
      (e = .returned (.bool true) ∧ J (pre ++ [x]) W' ∧ Kept n₀ Bp W W') ∨ (e = .returned (.bool false) ∧ Jx (pre ++ [x]) W'))
    (hr : Row W bk 0 n f) (hp : W.cell? ⟨Bp, 0, none⟩ = some (.slice (some ⟨bk, 0, none⟩) n cap)) (hq : W.cell? ⟨Bq, 0, none⟩ = some (.int .i64 s)) (h0 : J [] W) :
    CallsIn Fence.wide N Tryd.prog 39 #[.func (.yield l) #[] #[], .pointer (some ⟨Bp, 0, none⟩), .pointer (some ⟨Bq, 0, none⟩)] W fun e W' => (∃ v, e = .returned v) ∧
      ((∃ xs, Came (sumG n f s) n xs ∧ J xs W') ∨ (∃ pre, (∃ k, k < n ∧ sumG n f s k = true) ∧ Jx pre W')) := by
  have hlt : bk < W.heap.size := by omega
  have HP := Lib.hid hp; have HR := Lib.hid hr; have HJ := Lib.hid hJ; have HY := Lib.hid hY; clear hr hJ hY
  refine callsIn_of_wp Tryd.func39 rfl trivial ?_ rfl
  simp only [Tryd.ntmps39, List.size_toArray, List.length_cons, List.length_nil, Nat.reduceAdd, Nat.reduceSub, Array.replicate_succ, Array.replicate_zero, List.push_toArray, List.append_toArray, List.nil_append, List.cons_append]
  gi_wp2_with fail
  refine ⟨trivial, (fun h => by cases h), (callsIn_wide.2 (met_any bk n cap f s hn _ HR.out hlt)).mono ?_⟩
  rintro e w1 ⟨rfl, hb1⟩
  have hp1 : w1.cell? ⟨Bp, 0, none⟩ = some (.slice (some ⟨bk, 0, none⟩) n cap) := (hb1.cell (p := ⟨Bp, 0, none⟩) hBp).trans hp
  have H1 := Lib.hid (HJ.out [] _ _ none h0 (grown_of_below hb1) (fun r e => by cases e))
  have HB1 := Lib.hid (Kept.of hb1 hn₀ hBp)
  clear hb1 h0 hq
  gi_wp2_with fail
  gi_loopw [11] (fun i wr => ∃ k : Nat, k ≤ n ∧ i = .int .i64 k ∧ (∃ xs, Hid (Came (sumG n f s) k xs) ∧ Hid (J xs wr)) ∧ Hid (Kept n₀ Bp W wr)) (fun i _ => n - (intOf i).toNat)
  case atStart => exact ⟨0, Nat.zero_le _, rfl, ⟨[], Lib.hid (Came.none _), H1⟩, HB1⟩
  case round =>
    obtain ⟨k, hk, rfl, ⟨xs, hxs, hJx⟩, hB⟩ := hrel
    clear hp hp1
    have hp : wr.cell? ⟨Bp, 0, none⟩ = some (.slice (some ⟨bk, 0, none⟩) n cap) := hB.out.2.trans HP.out
    by_cases hk2 : k < n
    · have hki : (k : Int) < (n : Int) := by omega
      have hk7 : k < 7 := by omega
      have hszr : W.heap.size ≤ wr.heap.size := hB.out.1.size
      gi_wp2_with fail
      refine ⟨trivial, (fun h => by cases h), (callsIn_wide.2 (meeting_any bk n cap k f hn hk2 _ (HR.out.below hB.out.1 hbk) (by omega))).mono ?_⟩
      rintro e w2 ⟨rfl, hb2⟩
      replace hJx := Lib.hid (HJ.out xs _ _ none hJx.out (grown_of_below hb2) (fun r e => by cases e))
      replace hB := Lib.hid (hB.out.on (Kept.of hb2 (by omega) (by omega)))
      clear hb2 hszr hp
      cases hg : sumG n f s k with
      | true =>
        have he : (meetI n f k == metI n f s) = true := hg
        have HG := Lib.hid hg; clear hg
        obtain ⟨fn, tmps, assign, body, hy, hR⟩ := HY.out xs ⟨k, hk7⟩ w2 hJx.out (by have := hxs.out.len; omega)
        dsimp only at hy
        gi_wp2_with fail
        refine ⟨(fun h => by cases h), hR.mono ?_⟩
        rintro e W3 (⟨rfl, hJ3, hk3⟩ | ⟨rfl, hJx3⟩)
        · replace hJ3 := Lib.hid hJ3
          replace hB := Lib.hid (hB.out.on hk3)
          clear hk3 hy hR
          gi_wp2_with fail
          go_roundw
          case rel => exact ⟨k + 1, by omega, by go_num, ⟨_, Lib.hid (hxs.out.yes hk7 HG.out), hJ3⟩, hB⟩
          case measure => simp [intOf]; omega
        · replace hJx3 := Lib.hid hJx3
          clear hy hR
          gi_wp2_with fail
          refine bodyPost_ret (results_none rfl _ _ _) rfl ?_
          exact ⟨⟨_, rfl⟩, .inr ⟨_, ⟨k, hk2, HG.out⟩, hJx3.out⟩⟩
      | false =>
        have he : (meetI n f k == metI n f s) = false := hg
        have HG := Lib.hid hg; clear hg
        gi_wp2_with fail
        refine ⟨fun _ h => (by cases h), ?_⟩
        gi_wp2_with fail
        go_roundw
        case rel => exact ⟨k + 1, by omega, by go_num, ⟨xs, Lib.hid (hxs.out.no HG.out), hJx⟩, hB⟩
        case measure => simp [intOf]; omega
    · have hkn : k = n := by omega
      subst hkn
      gi_wp2_with fail
      go_end0
      exact ⟨⟨_, rfl⟩, .inl ⟨xs, hxs.out, hJx.out⟩⟩

theorem sumsC_stops (N Bp Bq n₀ bk n cap : Nat) (f : Nat → Int) (s : Int) (hn : n ≤ 7) (hbk : bk < n₀) (w : World) (hn₀ : n₀ ≤ w.heap.size) (hBp : Bp < w.heap.size)
    (hr : Row w bk 0 n f) (hBq : Bq < w.heap.size) (hp : w.cell? ⟨Bp, 0, none⟩ = some (.slice (some ⟨bk, 0, none⟩) n cap)) (hq : w.cell? ⟨Bq, 0, none⟩ = some (.int .i64 s)) :
    SeqStopsK Fence.wide N Tryd.prog 39 #[.pointer (some ⟨Bp, 0, none⟩), .pointer (some ⟨Bq, 0, none⟩)] (fun x : Th => #[Value.int .i64 (x.1 : Int)]) (Kept n₀ Bp)
      (Came (sumG n f s) n) (fun _ => ∃ k, k < n ∧ sumG n f s k = true) n w := fun l J Jx W hW hJ _ hY h0 =>
  sumsC_in N l Bp Bq n₀ bk n cap f s hn hbk J Jx W (Nat.le_trans hn₀ hW.size) (Nat.lt_of_lt_of_le hBp hW.size) hJ hY (hr.below hW (by omega)) ((hW.cell (p := ⟨Bp, 0, none⟩) hBp).trans hp) ((hW.cell (p := ⟨Bq, 0, none⟩) hBq).trans hq) h0
end Go.Proofs.YtbhdeidnifilfaaDoor
