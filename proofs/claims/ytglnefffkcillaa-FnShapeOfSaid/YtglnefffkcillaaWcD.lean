import Derived.Test.YtglnefffkcillaaWcC
import Derived.RangeFuncNested
import Derived.RangeFuncBound
import Derived.RangeFuncCalls
import Derived.RangeFuncLeaves
import Derived.Shelf.Abstract
import Derived.Shelf.RegionOpen
import Derived.WalkKit
import Derived.OwnWalkIn
import Derived.TacticsInMore
import Derived.LoopNIn
import Derived.LoopIn
namespace Go.Proofs.Ytglnefffkcillaa
set_option linter.unusedVariables false
set_option linter.unusedSimpArgs false
open Go.RowKit Go.Maps
attribute [local go_sem] Oper.semAt_some

theorem listsOf_any (k : Int) (gc : Nat) (lb : Array Value) (w : World) :
    Calls Try.prog 74 #[.int .i64 k, .func (.func gc) #[] lb] w fun e w' => e = .returned (.func (.func 87) #[] #[.pointer (some ⟨w.heap.size, 0, none⟩), .pointer (some ⟨w.heap.size + 1, 0, none⟩)]) ∧
      w' = (w.alloc (.cells #[.int .i64 k] 3)).alloc (.cells #[.func (.func gc) #[] lb] 38) := by
  have hmf : ∀ (fn : Fn) (first cap : Array Value) (w : World), (Instr.makeFunc fn first cap).run Try.prog w = .ok (.func fn first cap) w := fun _ _ _ _ => rfl
  go_enter Try.func74, Try.ntmps74
  go_wp2_with fail
  go_ret
  exact ⟨rfl, rfl⟩

set_option maxRecDepth 100000 in
set_option maxHeartbeats 8000000 in
theorem lists0_in (N l A0 A1 B : Nat) (R : Nat → Prop) (J : List Lst → (Nat → Prop) → World → Prop) (C : List Int → List Int) (W : World)
    (hJ : AbideQ W.heap.size J)
    (hY : ∀ pre x T W1, J pre T W1 → pre.length < 1 → LstIn (llK C 0) B x T W1 → YieldAt Fence.wide (N - 1) Try.prog l (encL x) W1 fun e W' =>
      e = .returned (.bool true) ∧ J (pre ++ [x]) T W' ∧ W1.heap.size ≤ W'.heap.size ∧ ∀ k, T k ∨ R k → W'.heap[k]? = W1.heap[k]?)
    (hA0 : Boxed W A0 3 (.int .i64 0)) (h0 : J [] (fun _ => False) W) :
    CallsIn Fence.wide N Try.prog 87 #[.func (.yield l) #[] #[], .pointer (some ⟨A0, 0, none⟩), .pointer (some ⟨A1, 0, none⟩)] W fun e W' => (∃ v, e = .returned v) ∧
      ∃ xs T, LstAll (llK C 0) B xs T W' ∧ J xs T W' := by
  have hal := alloc_below W (.cells #[.func (.yield l) #[] #[]] 32)
  have hJ1 := hJ _ _ _ _ _ h0 (mvd_of_below hal) (fun _ h => .inl h)
  have hx0 : LstIn (llK C 0) B ⟨.slice none 0 0, []⟩ (fun _ => False) (W.alloc (.cells #[.func (.yield l) #[] #[]] 32)) := ⟨⟨OwnX.nil _ _ _, fun _ => rfl, fun g hg => by simp [Value.ownBlock] at hg⟩, by simp [llK]⟩
  obtain ⟨fn, tmps, assign, body, hy, hR⟩ := yield_any rfl 2 (hY [] ⟨.slice none 0 0, []⟩ (fun _ => False) _ hJ1 (by simp) hx0)
  have hca := (hA0.alloc (.cells #[.func (.yield l) #[] #[]] 32)).cell
  have hcy := (Boxed.new W 32 (.func (.yield l) #[] #[])).cell
  dsimp only [encL] at hy
  refine callsIn_wide.2 (callsIn_wide (n := 3).1 ?_)
  refine callsIn_of_wp_marks Try.func87 rfl trivial ?_ rfl
  simp only [Try.ntmps87, List.size_toArray, List.length_cons, List.length_nil, Nat.reduceAdd, Nat.reduceSub, Array.replicate_succ, Array.replicate_zero, List.push_toArray, List.append_toArray, List.nil_append, List.cons_append]
  gi_wp2_with fail
  refine hR.mono ?_
  rintro e w5 ⟨rfl, hj5, hs5, hk5⟩
  gi_wp2_with fail
  refine ⟨_, results_none rfl _ _ _, ⟨_, rfl⟩, [⟨.slice none 0 0, []⟩], (fun _ => False), ⟨rfl, by simp [Value.ownBlock], fun x hx => ?_⟩, hj5⟩
  rw [List.mem_singleton] at hx
  subst hx
  exact ⟨OwnX.nil _ _ _, fun _ => rfl, fun g hg => by simp [Value.ownBlock] at hg⟩
end Go.Proofs.Ytglnefffkcillaa
