import Derived.Test.YtacoeaoaabjkoaaPcA
namespace Go.Proofs.Ytacoeaoaabjkoaa
open Go.RowKit Go.Shelf Go.Maps
attribute [local go_sem] Oper.semAt_some

/-- a place of a set -/
abbrev Pl (s : Int) := { x : Nat // x < 7 ∧ hasB s x = true }
/-- what has come: the places below k -/
def CameP (s : Int) (k : Nat) (xs : List (Pl s)) : Prop := xs.map (fun x => x.1) = (List.range k).filter (hasB s)
theorem CameP.none (s : Int) : CameP s 0 [] := rfl
theorem CameP.yes {s : Int} {k : Nat} {xs : List (Pl s)} (h : CameP s k xs) (hk : k < 7) (hg : hasB s k = true) : CameP s (k + 1) (xs ++ [⟨k, hk, hg⟩]) := by
  unfold CameP at h ⊢
  rw [List.map_append, h, List.range_succ, List.filter_append]
  simp [hg]
theorem CameP.no {s : Int} {k : Nat} {xs : List (Pl s)} (h : CameP s k xs) (hg : hasB s k = false) : CameP s (k + 1) xs := by
  unfold CameP at h ⊢
  rw [h, List.range_succ, List.filter_append]
  simp [hg]
theorem CameP.len {s : Int} {k : Nat} {xs : List (Pl s)} (h : CameP s k xs) : xs.length ≤ k := by
  unfold CameP at h
  have h1 : xs.length = ((List.range k).filter (hasB s)).length := by rw [← h, List.length_map]
  have h2 := List.length_filter_le (hasB s) (List.range k)
  rw [List.length_range] at h2
  omega
theorem CameP.mem {s : Int} {k : Nat} {xs : List (Pl s)} (h : CameP s k xs) {i : Nat} (hi : i < k) (hb : hasB s i = true) : ∃ x, x ∈ xs ∧ x.1 = i := by
  have : i ∈ xs.map (fun x => x.1) := by
    unfold CameP at h
    rw [h]
    exact List.mem_filter.2 ⟨List.mem_range.2 hi, hb⟩
  obtain ⟨x, h1, h2⟩ := List.mem_map.1 this
  exact ⟨x, h1, h2⟩

theorem grown_of_below9 {W W' : World} (h : Below W.heap.size W W') : W.grownBy W' none :=
  ⟨h.os, h.tape, h.output, h.size, fun k hk _ => h.block k hk⟩

/-- what a round keeps: the iterator's own variable -/
def KeptC (Bp : Nat) (W W' : World) : Prop := W'.cell? ⟨Bp, 0, none⟩ = W.cell? ⟨Bp, 0, none⟩
theorem KeptC.refl (Bp : Nat) (W : World) : KeptC Bp W W := rfl
theorem KeptC.on {Bp : Nat} {A B C : World} (h : KeptC Bp A B) (k : KeptC Bp B C) : KeptC Bp A C := k.trans h
theorem KeptC.below {Bp : Nat} {A B : World} {n : Nat} (h : Below n A B) (hB : Bp < n) : KeptC Bp A B := h.cell (p := ⟨Bp, 0, none⟩) hB
theorem keptC_b {Bp : Nat} {w : World} (hB : Bp < w.heap.size) (W : World) (l : Nat) (o o' : Obj) (hl : w.heap.size ≤ l) (h : W.heap[l]? = some o) (h1 : o.isCells = false) (h2 : o.isWalk = false) : KeptC Bp W (W.putObj l o') :=
  (belowK_b (n₀ := w.heap.size) (Nat.le_refl _) W l o o' hl h h1 h2).cell (p := ⟨Bp, 0, none⟩) hB

theorem each_any (s : Int) (w : World) :
    Calls Try.prog 67 #[.int .i64 s] w fun e w' => e = .returned (.func (.func 81) #[] #[.pointer (some ⟨w.heap.size, 0, none⟩)]) ∧
      w' = w.alloc (.cells #[.int .i64 s] 40) := by
  have hmf : ∀ (fn : Fn) (first cap : Array Value) (w : World), (Instr.makeFunc fn first cap).run Try.prog w = .ok (.func fn first cap) w := fun _ _ _ _ => rfl
  go_enter Try.func67, Try.ntmps67
  go_wp2_with fail
  go_ret
  exact ⟨rfl, rfl⟩

set_option maxRecDepth 100000 in
set_option maxHeartbeats 4000000 in
/-- the iterator: it yields the places in their order -/
theorem eachC_in (N l Bp : Nat) (s : Int) (J Jx : List (Pl s) → World → Prop) (W : World)
    (hY : ∀ pre x W, J pre W → pre.length < 7 → YieldAt Fence.wide (N - 1) Try.prog l #[.int .i64 (x.1 : Int)] W fun e W' =>
      (e = .returned (.bool true) ∧ J (pre ++ [x]) W' ∧ KeptC Bp W W') ∨ (e = .returned (.bool false) ∧ Jx (pre ++ [x]) W'))
    (hp : W.cell? ⟨Bp, 0, none⟩ = some (.int .i64 s)) (h0 : J [] W) :
    CallsIn Fence.wide N Try.prog 81 #[.func (.yield l) #[] #[], .pointer (some ⟨Bp, 0, none⟩)] W fun e W' => (∃ v, e = .returned v) ∧
      ((∃ xs, CameP s 7 xs ∧ J xs W') ∨ (∃ pre : List (Pl s), True ∧ Jx pre W')) := by
  have HP := Lib.hid hp; have HY := Lib.hid hY; have H0 := Lib.hid h0; clear hY h0
  refine callsIn_of_wp Try.func81 rfl trivial ?_ rfl
  simp only [Try.ntmps81, List.size_toArray, List.length_cons, List.length_nil, Nat.reduceAdd, Nat.reduceSub, Array.replicate_succ, Array.replicate_zero, List.push_toArray, List.append_toArray, List.nil_append, List.cons_append]
  gi_wp2_with fail
  gi_loopw [3, 4] (fun _ i wr => ∃ k : Nat, k ≤ 7 ∧ i = .int .i64 k ∧ (∃ xs, Hid (CameP s k xs) ∧ Hid (J xs wr)) ∧ Hid (KeptC Bp W wr)) (fun _ i _ => 7 - (intOf i).toNat)
  case atStart => exact ⟨0, Nat.zero_le _, rfl, ⟨[], Lib.hid (CameP.none _), H0⟩, Lib.hid (KeptC.refl _ _)⟩
  case round =>
    obtain ⟨k, hk, rfl, ⟨xs, hxs, hJx⟩, hB⟩ := hrel
    clear hp
    have hp : wr.cell? ⟨Bp, 0, none⟩ = some (.int .i64 s) := hB.out.trans HP.out
    by_cases hk2 : k < 7
    · have hki : (k : Int) < 7 := by omega
      have hk6 : k ≤ 63 := by omega
      cases hg : hasB s k with
      | true =>
        have HG := Lib.hid hg; clear hg
        obtain ⟨fn, tmps, assign, body, hy, hR⟩ := HY.out xs ⟨k, hk2, HG.out⟩ wr hJx.out (by have := hxs.out.len; omega)
        dsimp only at hy
        gi_wp2_with fail
        refine ⟨trivial, (fun h => by cases h), (callsIn_wide.2 (hasP_val _ _ true hk6 _ HG.out)).mono ?_⟩
        rintro e w' ⟨rfl, rfl⟩
        gi_wp2_with fail
        refine ⟨(fun h => by cases h), hR.mono ?_⟩
        rintro e W3 (⟨rfl, hJ3, hk3⟩ | ⟨rfl, hJx3⟩)
        · replace hJ3 := Lib.hid hJ3
          replace hB := Lib.hid (hB.out.on hk3)
          clear hk3 hy hR
          gi_wp2_with fail
          go_roundw
          case rel => exact ⟨k + 1, by omega, by go_num, ⟨_, Lib.hid (hxs.out.yes hk2 HG.out), hJ3⟩, hB⟩
          case measure => simp [intOf]; omega
        · replace hJx3 := Lib.hid hJx3
          clear hy hR
          gi_wp2_with fail
          refine bodyPost_ret (results_none rfl _ _ _) rfl ?_
          exact ⟨⟨_, rfl⟩, .inr ⟨_, trivial, hJx3.out⟩⟩
      | false =>
        have HG := Lib.hid hg; clear hg
        gi_wp2_with fail
        refine ⟨trivial, (fun h => by cases h), (callsIn_wide.2 (hasP_val _ _ false hk6 _ HG.out)).mono ?_⟩
        rintro e w' ⟨rfl, rfl⟩
        gi_wp2_with fail
        refine ⟨fun _ h => (by cases h), ?_⟩
        gi_wp2_with fail
        go_roundw
        case rel => exact ⟨k + 1, by omega, by go_num, ⟨xs, Lib.hid (hxs.out.no HG.out), hJx⟩, hB⟩
        case measure => simp [intOf]; omega
    · have hki : ¬ (k : Int) < 7 := by omega
      have hkn : k = 7 := by omega
      subst hkn
      gi_wp2_with fail
      go_end0
      exact ⟨⟨_, rfl⟩, .inl ⟨xs, hxs.out, hJx.out⟩⟩

theorem eachC_stops (N Bp : Nat) (s : Int) (w : World) (hBp : Bp < w.heap.size) (hp : w.cell? ⟨Bp, 0, none⟩ = some (.int .i64 s)) :
    SeqStopsK Fence.wide N Try.prog 81 #[.pointer (some ⟨Bp, 0, none⟩)] (fun x : Pl s => #[Value.int .i64 (x.1 : Int)]) (KeptC Bp)
      (CameP s 7) (fun _ => True) 7 w := fun l J Jx W hW _ _ hY h0 =>
  eachC_in N l Bp s J Jx W hY ((hW.cell (p := ⟨Bp, 0, none⟩) hBp).trans hp) h0
end Go.Proofs.Ytacoeaoaabjkoaa
