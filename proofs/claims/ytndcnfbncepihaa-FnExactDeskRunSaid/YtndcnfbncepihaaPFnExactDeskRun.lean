/- FnExactDeskRun holds: for every input the call returns true, and its arguments read behind the call as they read before. There are no conditions. -/
import Derived.Test.YtndcnfbncepihaaRows
import Derived.WalkKit
import Derived.ProofKit
import Derived.OpenShut
import Derived.ShutString
import Derived.ChangeOld
import Derived.Below
import Derived.Lib.SmallJoins
import Derived.Deep.SlicePairs
import Derived.Test.YtndcnfbncepihaaDkOne
import Derived.Test.YtndcnfbncepihaaDkSix
namespace Go.Proofs.Ytndcnfbncepihaa.fnExactDeskRun
open Go.ChangeShapes Go.WideShapes Go.ChangeAt Go.RowKit
open Go.ChangeMaps (open_string shut_string)
set_option linter.unusedVariables false

theorem own : ownKnob Try.prog.godebug = none := by kernel_rfl
theorem laidOut : laidOutB Try.prog = true := by kernel_rfl
theorem cellsS : Try.prog.cellsOf 48 = 2 := by kernel_rfl
theorem cellsE2 : Try.prog.cellsOf 54 = 2 := by kernel_rfl
theorem cellsE : Try.prog.cellsOf 3 = 1 := by kernel_rfl
theorem lit64 {n : Int} (h : (Lit.int .i64 n).wf = true) : I64 n := by
  unfold I64
  simp [Lit.wf, IntKind.min, IntKind.max, IntKind.bits, IntKind.signed] at h
  exact h
theorem prs_of {W : World} {x : Addr} {l c m : Nat} {V0 V1 : Nat → Value} (hl : l ≤ c) (hm : c ≤ maxLen) (hlm : l ≤ m)
    (hx : ∀ i, i < m → W.cell? (x.add (i * 2)) = some (V0 i) ∧ W.cell? (x.add (i * 2 + 1)) = some (V1 i) ∧ ∃ p q : Int, V0 i = .int .i64 p ∧ V1 i = .int .i64 q ∧ I64 p ∧ I64 q) : ∃ P Q, Prq W (some x) l P Q := by
  have hv : ∀ i, ∃ pq : Int × Int, i < m → V0 i = .int .i64 pq.1 ∧ V1 i = .int .i64 pq.2 ∧ I64 pq.1 ∧ I64 pq.2 := fun i => by
    by_cases hi : i < m
    · obtain ⟨_, _, p, q, h1, h2, h3, h4⟩ := hx i hi
      exact ⟨(p, q), fun _ => ⟨h1, h2, h3, h4⟩⟩
    · exact ⟨(0, 0), fun h => absurd h hi⟩
  have hv2 : ∃ g : Nat → Int × Int, ∀ i, i < m → V0 i = .int .i64 (g i).1 ∧ V1 i = .int .i64 (g i).2 ∧ I64 (g i).1 ∧ I64 (g i).2 := ⟨fun i => (hv i).choose, fun i hi => (hv i).choose_spec hi⟩
  obtain ⟨g, hg⟩ := hv2
  refine ⟨fun i => (g i).1, fun i => (g i).2, ⟨by unfold maxLen at hm; omega, fun i hi => ⟨(hg i (by omega)).2.2.1, (hg i (by omega)).2.2.2⟩⟩, ?_⟩
  by_cases h0 : l = 0
  · exact .inl h0
  · right
    obtain ⟨b, o, spot⟩ := x
    have hspot : spot = none := by simpa [Addr.add] using World.cell?_spot (hx 0 (by omega)).1
    subst hspot
    have h1 := (hx 0 (by omega)).1
    rw [Go.WideShapes.add_plain] at h1
    refine ⟨b, o, rfl, World.block_lt_of_cell? W _ h1, fun i hi => ?_⟩
    have h2 := hx i (by omega)
    rw [Go.WideShapes.add_plain, Go.WideShapes.add_plain] at h2
    exact ⟨by rw [h2.1, (hg i (by omega)).1], by rw [← Nat.add_assoc] at h2; rw [h2.2.1, (hg i (by omega)).2.1]⟩

theorem walk (v : Value) (xs : List Int) (L : List (List Int)) (a1 : Option Addr) (len1 cap1 : Nat) (P1 Q1 : Nat → Int) (w : World) (h : DeskR w v xs L) (w1 : Prq w a1 len1 P1 Q1) :
    Calls Try.prog 10 #[v, .slice a1 len1 cap1] w fun e w' => e = .returned (.bool true) ∧ Below w.heap.size w w' := by
  obtain ⟨ds, rfl, hd⟩ := w1.list; exact exactDeskRun v xs L a1 ds cap1 w h hd

set_option maxRecDepth 100000 in
theorem lifted (os : Os) (started : os.Started) (H : Type) (enc : TypeId × Value → H) :
    ReturnsInHanded {} Try.checked os 10 .any (Rows.fnExactDeskRunSpec.pre6 enc Try.prog Try.f10 Rows.fnExactDeskRunRow.domain false) (Rows.fnExactDeskRunSpec.post enc Try.prog Try.f10 false true false false) := by
  refine returnsInHanded_of_change (C := Try.checked) own started (by kernel_rfl) Try.func10
    (ChangeSpec.witness6 (enc := enc) (C := Try.checked) false ⟨#[], #[.agg #[.slice none 0 0, .slice none 0 0], .slice none 0 0], []⟩ 8 (by kernel_rfl) (by kernel_rfl) (by kernel_rfl) (by kernel_rfl)) ?_
  intro W base args ds gs before hval0 hW hcnd _
  have hval : ∀ (j : Nat) t v, Try.f10.params[j]? = some t → args[j]? = some v → Value.okWide Try.prog W .any base t v := hval0
  have hW' := hW
  obtain ⟨p, q, hA0, hV, rfl, hfz, hnd⟩ := hW
  have hA : DataW.TrodAll enc Try.prog W 0 (fun _ => true) true Try.f10.params.toList args.toList ds p := hA0
  rw [Try.params10] at hA hval
  obtain ⟨v0, vs0, d0, ds0, p0, q0, hargs, rfl, rfl, h0, r0⟩ := trodAll_cons hA
  obtain ⟨v1, vs1, d1, ds1, p1, q1, rfl, rfl, rfl, h1, r1⟩ := trodAll_cons r0
  obtain ⟨rfl, rfl, rfl⟩ := trodAll_nil r1
  obtain rfl : args = #[v0, v1] := by cases args; simp_all
  obtain ⟨rfl, rfl⟩ := trodVars_none hV
  have k0 := h0
  have lt0 : ∀ x ∈ p0, x.block < W.heap.size := by obtain ⟨m, hm⟩ := k0; exact DataW.trod_lt m _ _ _ hm
  obtain ⟨c0, c1, y0, y1, mm, rfl, rfl, rfl, hy0, hy1⟩ := Go.Joins.open_agg2 Try.underlying48 (by kernel_rfl) cellsS (hval 0 48 v0 rfl rfl) h0
  obtain ⟨xs, L, hd⟩ := desk_open hy0 hy1
  obtain ⟨a1, len1, cap1, rfl⟩ := okWide_slice Try.underlying57 (hval 1 57 v1 rfl rfl)
  have k1 := h1
  have lt1 : ∀ x ∈ p1, x.block < W.heap.size := by obtain ⟨m, hm⟩ := k1; exact DataW.trod_lt m _ _ _ hm
  obtain ⟨P1, Q1, w1⟩ : ∃ P Q, Prq W a1 len1 P Q := by
    obtain ⟨fuel, hf⟩ := h1
    rcases Go.Deep.open_slice_pairs Try.underlying57 Try.underlying54 cellsE2 rfl rfl cellsE cellsE hf with ⟨hcs, _⟩ | ⟨x, l, c, m, n, V0, V1, D0, D1, P0, P1, hcs, _, hl, hm, hmm, _, hx⟩
    · simp [Value.cells] at hcs
      obtain ⟨rfl, rfl, rfl⟩ := hcs
      exact ⟨fun _ => 0, fun _ => 0, ⟨by omega, fun i hi => absurd hi (Nat.not_lt_zero _)⟩, .inl rfl⟩
    · simp [Value.cells] at hcs
      obtain ⟨rfl, rfl, rfl⟩ := hcs
      refine prs_of (V0 := V0) (V1 := V1) (m := m) hl hm (by rw [hmm]; split <;> omega) (fun i hi => ?_)
      obtain ⟨h1, h2, h3, h4⟩ := hx i hi
      obtain ⟨pp, e0, _, wa⟩ := DataW.trod_int Try.underlying3 h3
      obtain ⟨qq, e1, _, wb⟩ := DataW.trod_int Try.underlying3 h4
      simp at e0 e1
      exact ⟨h1, h2, pp, qq, e0, e1, lit64 wa, lit64 wb⟩
  clear hA0 hval0
  refine (walk _ xs L a1 len1 cap1 P1 Q1 W hd w1).mono fun e W' ⟨he, bel⟩ => ?_
  subst he
  exact ⟨_, rfl, _, _, _, [], _, [], hW', trodAll_mk1 (shut_bool Try.underlying4 _), (trodAll_cons_mk (Below.trod laidOut (by kernel_rfl) (of_decide_eq_true (by kernel_rfl)) k0 bel lt0) (trodAll_cons_mk (Below.trod laidOut (by kernel_rfl) (of_decide_eq_true (by kernel_rfl)) k1 bel lt1) trodAll_mk0)), rfl, bel.frame _, fun h => by cases h⟩

theorem over : Rows.fnExactDeskRunRow.holds Try.pinned (OpenSpec.ofChange Rows.fnExactDeskRunSpec) :=
  OpenClaim.holds_of_wide 10 Try.f10 rfl rfl rfl rfl rfl rfl rfl ⟨rfl, rfl, rfl, rfl, rfl⟩ rfl rfl rfl rfl rfl (by kernel_rfl) Try.func10 (by kernel_rfl)
    (of_decide_eq_true (by kernel_rfl)) (by unfold Func.isWrapper; first | (rw [if_pos (by decide +kernel)]; kernel_rfl) | (rw [if_neg (by decide +kernel)]; exact ⟨rfl, rfl⟩))
    (fun os started H enc _ => lifted os started H enc)

theorem proved : Rows.FnExactDeskRunSaid := over
end Go.Proofs.Ytndcnfbncepihaa.fnExactDeskRun
