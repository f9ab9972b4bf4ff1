import Derived.Test.YtndcnfbncepihaaDkAO
import Derived.Test.YtndcnfbncepihaaDkEight
import Derived.Test.YtndcnfbncepihaaDkSix
namespace Go.Proofs.Ytndcnfbncepihaa
set_option linter.unusedVariables false
set_option linter.unusedSimpArgs false
open Go.RowKit Go.Maps

theorem dcut (p : Option Addr) (cp n m : Nat) (h : DAd p cp n) (hm : m ≤ n) (W : World) : (Instr.slice 43 (.slice p n cp) none (some (.int .i64 m)) none).run Try.prog W = .ok (.slice p m cp) W := by
  have hz : ∀ w, (Go.sizeOf 38).run Try.prog w = .ok 2 w := fun w => by kernel_rfl
  obtain ⟨hc, ⟨rfl, rfl⟩ | ⟨g, rfl⟩⟩ := h
  · have hm0 : m = 0 := by omega
    have hn0 : n = 0 := by omega
    subst hm0; subst hn0
    simp [Instr.slice, Instr.sliceBounds, Instr.sliceBound, run_underlying Try.underlying43, asIntOf, hz]
  · have h0 : (0 : Int) ≤ (m : Int) := by omega
    have hmc : ¬ cp < m := by omega
    simp [hmc, Instr.slice, Instr.sliceBounds, Instr.sliceBound, run_underlying Try.underlying43, asIntOf, hz, h0, Addr.add_lit]
theorem dlow (p : Option Addr) (cp n m : Nat) (h : DAd p cp n) (hm : m < n) :
    ∃ g, p = some ⟨g, 0, none⟩ ∧ ∀ W, (Instr.slice 43 (.slice p n cp) (some (.int .i64 m)) none none).run Try.prog W = .ok (.slice (some ⟨g, m * 2, none⟩) (n - m) (cp - m)) W := by
  have hz : ∀ w, (Go.sizeOf 38).run Try.prog w = .ok 2 w := fun w => by kernel_rfl
  obtain ⟨hc, ⟨rfl, rfl⟩ | ⟨g, rfl⟩⟩ := h
  · omega
  · refine ⟨g, rfl, fun W => ?_⟩
    have h0 : (0 : Int) ≤ (m : Int) := by omega
    have hc' : ¬ cp = m := by omega
    have hnm : ¬ n < m := by omega
    simp [hnm, Instr.slice, Instr.sliceBounds, Instr.sliceBound, run_underlying Try.underlying43, asIntOf, hz, h0, hc', Addr.add_lit]
theorem dlow0 (p : Option Addr) (cp : Nat) (h : DAd p cp 0) (W : World) : (Instr.slice 43 (.slice p 0 cp) (some (.int .i64 0)) none none).run Try.prog W = .ok (.slice p 0 cp) W := by
  have hz : ∀ w, (Go.sizeOf 38).run Try.prog w = .ok 2 w := fun w => by kernel_rfl
  obtain ⟨hc, ⟨rfl, rfl⟩ | ⟨g, rfl⟩⟩ := h
  · simp [Instr.slice, Instr.sliceBounds, Instr.sliceBound, run_underlying Try.underlying43, asIntOf, hz]
  · simp [Instr.slice, Instr.sliceBounds, Instr.sliceBound, run_underlying Try.underlying43, asIntOf, hz, Addr.add_lit]
theorem Dds.take {w : World} {p : Option Addr} {ds : List (Int × Int)} (h : Dds w p ds) (m : Nat) : Dds w p (ds.take m) := by
  refine ⟨⟨by have := h.1.1; rw [List.length_take]; omega, fun d hd => h.1.2 d (List.mem_of_mem_take hd)⟩, ?_⟩
  rcases h.2 with h0 | ⟨b, o, e, hl, hr⟩
  · exact .inl (by rw [List.length_take]; omega)
  · exact .inr ⟨b, o, e, hl, fun i hi => by
      have hi' : i < ds.length := by rw [List.length_take] at hi; omega
      rw [List.getElem_take]; exact hr i hi'⟩
/-- both parts of deeds -/
theorem dparts (p : Option Addr) (cp : Nat) (ds : List (Int × Int)) (h : DAd p cp ds.length) :
    ∃ p2 c2, (∀ W, (Instr.slice 43 (.slice p ds.length cp) none (some (.int .i64 ((ds.length / 2 : Nat) : Int))) none).run Try.prog W = .ok (.slice p (ds.take (ds.length / 2)).length cp) W) ∧
      (∀ W, (Instr.slice 43 (.slice p ds.length cp) (some (.int .i64 ((ds.length / 2 : Nat) : Int))) none none).run Try.prog W = .ok (.slice p2 (ds.drop (ds.length / 2)).length c2) W) ∧
      ∀ w, Dds w p ds → Dds w p2 (ds.drop (ds.length / 2)) := by
  have e1 : (ds.take (ds.length / 2)).length = ds.length / 2 := by rw [List.length_take]; omega
  have e2 : (ds.drop (ds.length / 2)).length = ds.length - ds.length / 2 := List.length_drop ..
  rw [e1, e2]
  by_cases h0 : ds.length = 0
  · refine ⟨p, cp, fun W => dcut p cp _ _ h (by omega) W, fun W => ?_, fun w hd => ⟨⟨by rw [e2]; omega, fun d hd' => hd.1.2 d (List.mem_of_mem_drop hd')⟩, .inl (by rw [e2]; omega)⟩⟩
    rw [h0] at h ⊢
    exact dlow0 p cp h W
  · obtain ⟨g, rfl, hl⟩ := dlow p cp ds.length (ds.length / 2) h (by omega)
    refine ⟨_, _, fun W => dcut _ cp _ _ h (by omega) W, hl, fun w hd => ⟨⟨by have := hd.1.1; rw [e2]; omega, fun d hd' => hd.1.2 d (List.mem_of_mem_drop hd')⟩, ?_⟩⟩
    obtain ⟨b, o, e, hlt, hr⟩ := hd.row (by omega)
    injection e with e
    injection e with e3 e4
    subst e3; subst e4
    refine .inr ⟨g, _, rfl, hlt, fun i hi => ?_⟩
    have hi' : ds.length / 2 + i < ds.length := by rw [e2] at hi; omega
    have := hr _ hi'
    rw [List.getElem_drop]
    rw [show ds.length / 2 * 2 + i * 2 = 0 + (ds.length / 2 + i) * 2 by omega]
    exact this
end Go.Proofs.Ytndcnfbncepihaa
