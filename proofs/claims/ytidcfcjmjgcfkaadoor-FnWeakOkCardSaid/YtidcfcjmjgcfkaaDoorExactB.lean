import Derived.Test.YtidcfcjmjgcfkaaDoorExactA
import Derived.OpenShut
namespace Go.Proofs.YtidcfcjmjgcfkaaDoor
open Go.RowKit

set_option maxHeartbeats 800000 in
theorem eqIntS_nil (a1 a2 : Option Addr) (c1 c2 : Nat) (w : World) :
    Calls Tryd.prog 19 #[.slice a1 0 c1, .slice a2 0 c2] w fun e w' => e = .returned (.bool true) ∧ Drew w w' := by
  go_enter Tryd.func19, Tryd.ntmps19
  go_wp2_with fail
  go_loopw [5] (fun i wr => i = .int .i64 0 ∧ Drew w wr) (fun i _ => 0)
  case atStart => exact ⟨rfl, Drew.refl w⟩
  case round =>
    obtain ⟨rfl, hd⟩ := hrel
    go_wp2_with fail
    go_ret
    exact ⟨rfl, hd⟩

theorem eqIntS_any (a1 a2 : Option Addr) (c1 c2 n : Nat) (f : Nat → Int) (hn2 : n ≤ 1048576) (w : World) (h1 : Ints w a1 n f) (h2 : Ints w a2 n f) :
    Calls Tryd.prog 19 #[.slice a1 n c1, .slice a2 n c2] w fun e w' => e = .returned (.bool true) ∧ Drew w w' := by
  obtain ⟨_, rfl | ⟨b1, o1, rfl, hl1, hr1⟩⟩ := h1
  · exact eqIntS_nil a1 a2 c1 c2 w
  obtain ⟨_, rfl | ⟨b2, o2, rfl, hl2, hr2⟩⟩ := h2
  · exact eqIntS_nil _ a2 c1 c2 w
  exact eqIntS_row b1 o1 c1 b2 o2 c2 n f hn2 w hr1 hr2

def TrueEnd (w : World) (e : Ending) (w' : World) : Prop := e = .returned (.bool true) ∧ Below w.heap.size w w'

theorem below_onto {w a b : World} (h : Below w.heap.size w a) (k : Below a.heap.size a b) : Below w.heap.size w b := h.trans (k.mono h.size)

theorem Ints.drew {w w' : World} {n : Nat} {a : Option Addr} {f : Nat → Int} (h : Ints w a n f) (hd : Drew w w') : Ints w' a n f := h.below hd.below (Nat.le_refl _)
theorem Ints.next {w w' : World} {n : Nat} {a : Option Addr} {f : Nat → Int} (h : Ints w a n f) (hb : Below w.heap.size w w') : Ints w' a n f := h.below hb (Nat.le_refl _)

/-- what came in, as the shell of a proof says it -/
theorem ints_of {w : World} {a : Option Addr} {len cap : Nat} {zs : List Int} (h : (a = none ∧ len = 0 ∧ cap = 0 ∧ zs = []) ∨
    ∃ x, a = some x ∧ len ≤ cap ∧ cap ≤ maxLen ∧ zs.length = cap ∧ (∀ i, i < zs.length → w.cell? (x.add i) = some (.int .i64 (zs.getD i 0))) ∧ ∀ n ∈ zs, (Lit.int .i64 n).wf = true) :
    Ints w a len (fun i => zs.getD i 0) := by
  rcases h with ⟨rfl, rfl, rfl, rfl⟩ | ⟨x, rfl, hl, hm, hz, hc, hwf⟩
  · exact ⟨⟨by omega, fun i hi => absurd hi (Nat.not_lt_zero _)⟩, .inl rfl⟩
  · unfold maxLen at hm
    refine ⟨⟨by omega, fun i hi => ?_⟩, ?_⟩
    · have hm : zs.getD i 0 ∈ zs := by
        rw [List.getD_eq_getElem?_getD, List.getElem?_eq_getElem (by omega : i < zs.length)]
        exact List.getElem_mem _
      have := hwf _ hm
      unfold I64
      simp [Lit.wf, IntKind.min, IntKind.max, IntKind.bits, IntKind.signed] at this
      exact this
    · by_cases h0 : len = 0
      · exact .inl h0
      · right
        obtain ⟨b, o, rfl, hcell⟩ := ints_at hc (by omega)
        have h1 := hcell 0 (by omega)
        exact ⟨b, o, rfl, World.block_lt_of_cell? w _ h1, fun i hi => hcell i (by omega)⟩

end Go.Proofs.YtidcfcjmjgcfkaaDoor
