import Derived.Test.YtacoeaoaabjkoaaPcE
namespace Go.Proofs.Ytacoeaoaabjkoaa
open Go.RowKit Go.Shelf Go.Maps
attribute [local go_sem] Oper.semAt_some

theorem cuts_any (s : Int) (w : World) :
    Calls Try.prog 62 #[.int .i64 s] w fun e w' => e = .returned (.func (.func 74) #[] #[.pointer (some ⟨w.heap.size, 0, none⟩)]) ∧
      w' = w.alloc (.cells #[.int .i64 s] 40) := by
  have hmf : ∀ (fn : Fn) (first cap : Array Value) (w : World), (Instr.makeFunc fn first cap).run Try.prog w = .ok (.func fn first cap) w := fun _ _ _ _ => rfl
  go_enter Try.func62, Try.ntmps62
  go_wp2_with fail
  go_ret
  exact ⟨rfl, rfl⟩

/-- all cuts have come -/
def CameC (S : Nat) (xs : List (Ct S)) : Prop := ∀ y, Cut S y → ∃ z, z ∈ xs ∧ z.1 = y

set_option maxRecDepth 100000 in
set_option maxHeartbeats 4000000 in
/-- the iterator: it yields both parts of each cut, the greater one first -/
theorem cutsC_in (N l Bp S : Nat) (hS : S < 128) (hS1 : 1 ≤ S) (J Jx : List (Ct S) → World → Prop) (W : World)
    (hY : ∀ pre x W, J pre W → pre.length < 128 → YieldAt Fence.wide (N - 1) Try.prog l #[.int .i64 (x.1 : Int), .int .i64 (S - x.1 : Nat)] W fun e W' =>
      (e = .returned (.bool true) ∧ J (pre ++ [x]) W' ∧ KeptC Bp W W') ∨ (e = .returned (.bool false) ∧ Jx (pre ++ [x]) W'))
    (hp : W.cell? ⟨Bp, 0, none⟩ = some (.int .i64 S)) (h0 : J [] W) :
    CallsIn Fence.wide N Try.prog 74 #[.func (.yield l) #[] #[], .pointer (some ⟨Bp, 0, none⟩)] W fun e W' => (∃ v, e = .returned v) ∧
      ((∃ xs, CameC S xs ∧ J xs W') ∨ (∃ pre : List (Ct S), True ∧ Jx pre W')) := by
  have HP := Lib.hid hp; have HY := Lib.hid hY; have H0 := Lib.hid h0; clear hY h0
  have hs1 : IntKind.i64.wrap ((S : Int) - 1) = ((S - 1 : Nat) : Int) := by rw [wrap_in _ (by unfold I64; omega)]; omega
  have hand := and_nat9 (A := S - 1) (B := S) (by omega)
  have hle := nxt_le S S
  have hin := nxt_in S S
  have HM := Lib.hid (fun y (hy : y &&& S = y) (hyx : y < S) => nxt_max hS (Nat.and_self S) (Nat.le_refl _) hy hyx)
  obtain ⟨X, hX⟩ : ∃ X, (S - 1) &&& S = X := ⟨_, rfl⟩
  rw [hX] at hand hle hin HM
  have HIN := Lib.hid hin; have HLE := Lib.hid hle; clear hX hin hle
  refine callsIn_of_wp Try.func74 rfl trivial ?_ rfl
  simp only [Try.ntmps74, List.size_toArray, List.length_cons, List.length_nil, Nat.reduceAdd, Nat.reduceSub, Array.replicate_succ, Array.replicate_zero, List.push_toArray, List.append_toArray, List.nil_append, List.cons_append]
  gi_wp2_with fail
  trace_state
  gi_loopw [3] (fun v wr => ∃ x : Nat, v = .int .i64 x ∧ Hid (x &&& S = x ∧ x < S) ∧ (∃ xs, Hid ((∀ y, Cut S y → x < y → ∃ z, z ∈ xs ∧ z.1 = y) ∧ xs.length + x < 128) ∧ Hid (J xs wr)) ∧ Hid (KeptC Bp W wr)) (fun v _ => (intOf v).toNat)
  case atStart => exact ⟨X, rfl, Lib.hid ⟨HIN.out, by have := HLE.out; omega⟩, ⟨[], Lib.hid ⟨fun y hy hxy => by have := HM.out y hy.1 hy.2.1; omega, by have := HLE.out; simp; omega⟩, H0⟩, Lib.hid (KeptC.refl _ _)⟩
  case round =>
    obtain ⟨x, rfl, hx, ⟨xs, hxs, hJx⟩, hB⟩ := hrel
    clear hp hand hs1
    have hp : wr.cell? ⟨Bp, 0, none⟩ = some (.int .i64 S) := hB.out.trans HP.out
    obtain ⟨hxle, hsub, _⟩ := sub9 hS hx.out.1
    by_cases hc : S - x < x
    · have hd : decide (((S - x : Nat) : Int) < (x : Int)) = true := by simp; omega
      have hCT := Lib.hid (show Cut S x from ⟨hx.out.1, hx.out.2, hc⟩)
      have hx1 : IntKind.i64.wrap ((x : Int) - 1) = ((x - 1 : Nat) : Int) := by rw [wrap_in _ (by unfold I64; omega)]; omega
      have hand := and_nat9 (A := x - 1) (B := S) (by omega)
      have hle := nxt_le S x
      have hin := nxt_in S x
      have HM2 := Lib.hid (fun y (hy : y &&& S = y) (hyx : y < x) => nxt_max hS hx.out.1 hxle hy hyx)
      obtain ⟨X2, hX2⟩ : ∃ X2, (x - 1) &&& S = X2 := ⟨_, rfl⟩
      rw [hX2] at hand hle hin HM2
      have HIN2 := Lib.hid hin; have HLE2 := Lib.hid hle; have HC := Lib.hid hc; clear hX2 hin hle hc
      have HXS := Lib.hid hxle; clear hxle
      obtain ⟨fn, tmps, assign, body, hy, hR⟩ := HY.out xs ⟨x, hCT.out⟩ wr hJx.out (by have := hxs.out.2; omega)
      dsimp only at hy
      obtain ⟨d, hd0⟩ : ∃ d, ((S - x : Nat) : Int) = d := ⟨_, rfl⟩
      rw [hd0] at hy hsub hd
      have hd2 : d < (x : Int) := by have := HC.out; omega
      clear hd0
      gi_wp2_with fail
      refine ⟨(fun h => by cases h), hR.mono ?_⟩
      rintro e W3 (⟨rfl, hJ3, hk3⟩ | ⟨rfl, hJx3⟩)
      · replace hJ3 := Lib.hid hJ3
        replace hB := Lib.hid (hB.out.on hk3)
        have hp3 : W3.cell? ⟨Bp, 0, none⟩ = some (.int .i64 S) := hB.out.trans HP.out
        clear hk3 hy hR hp
        gi_wp2_with fail
        go_roundw
        case rel =>
          refine ⟨X2, by first | rfl | trivial, Lib.hid ⟨HIN2.out, by have := HLE2.out; have := HXS.out; have := HC.out; omega⟩, ⟨_, Lib.hid ⟨fun y hy hxy => ?_, ?_⟩, hJ3⟩, hB⟩
          · by_cases e : x < y
            · obtain ⟨z, h1, h2⟩ := hxs.out.1 y hy e
              exact ⟨z, List.mem_append.2 (.inl h1), h2⟩
            · by_cases e2 : y = x
              · exact ⟨_, List.mem_append.2 (.inr (List.mem_singleton.2 rfl)), e2.symm⟩
              · have := HM2.out y hy.1 (by omega); omega
          · have := hxs.out.2
            have := HLE2.out
            have := HC.out
            rw [List.length_append]
            simp
            omega
        case measure => have := HLE2.out; have := HC.out; simp [intOf]; omega
      · replace hJx3 := Lib.hid hJx3
        clear hy hR
        gi_wp2_with fail
        refine bodyPost_ret (results_none rfl _ _ _) rfl ?_
        exact ⟨⟨_, rfl⟩, .inr ⟨_, trivial, hJx3.out⟩⟩
    · have hd : decide (((S - x : Nat) : Int) < (x : Int)) = false := by simp; omega
      have hd2 : ¬ ((S - x : Nat) : Int) < (x : Int) := by omega
      have HC := Lib.hid hc; clear hc
      gi_wp2_with fail
      go_end0
      exact ⟨⟨_, rfl⟩, .inl ⟨xs, fun y hy => hxs.out.1 y hy (by obtain ⟨_, h2, h3⟩ := hy; have := HC.out; omega), hJx.out⟩⟩

theorem cutsC_stops (N Bp S : Nat) (hS : S < 128) (hS1 : 1 ≤ S) (w : World) (hBp : Bp < w.heap.size) (hp : w.cell? ⟨Bp, 0, none⟩ = some (.int .i64 S)) :
    SeqStopsK Fence.wide N Try.prog 74 #[.pointer (some ⟨Bp, 0, none⟩)] (fun x : Ct S => #[Value.int .i64 (x.1 : Int), Value.int .i64 (S - x.1 : Nat)]) (KeptC Bp)
      (CameC S) (fun _ => True) 128 w := fun l J Jx W hW _ _ hY h0 =>
  cutsC_in N l Bp S hS hS1 J Jx W hY ((hW.cell (p := ⟨Bp, 0, none⟩) hBp).trans hp) h0
end Go.Proofs.Ytacoeaoaabjkoaa
