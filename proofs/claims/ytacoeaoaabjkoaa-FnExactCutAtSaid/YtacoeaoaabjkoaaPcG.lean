import Derived.Test.YtacoeaoaabjkoaaPcF
namespace Go.Proofs.Ytacoeaoaabjkoaa
open Go.RowKit Go.Shelf Go.Maps
attribute [local go_sem] Oper.semAt_some

set_option maxRecDepth 100000 in
set_option maxHeartbeats 4000000 in
theorem together_nat (g n cap : Nat) (f : Nat → Int) (S : Nat) (hT : ThP n f (S : Int)) (hS1 : 1 ≤ S) (w : World) (hr : Row w g 0 n f) (hg : g < w.heap.size) :
    Calls Try.prog 41 #[.func (.func 61) #[.agg #[.int .i64 (2 ^ n - 1), .slice (some ⟨g, 0, none⟩) n cap]] #[], .int .i64 S] w fun e w' => e = .returned (.bool (tgB n f S)) ∧ Below w.heap.size w w' := by
  have HR := Lib.hid hr; have HT := Lib.hid hT; clear hr hT
  have h7 := HT.out.g.hi
  have hS := thS HT.out
  refine (callsIn_wide (n := 19)).1 ?_
  refine callsIn_of_wp_marks Try.func41 rfl trivial ?_ rfl
  simp only [Try.ntmps41, List.size_toArray, List.length_cons, List.length_nil, Nat.reduceAdd, Nat.reduceSub, Array.replicate_succ, Array.replicate_zero, List.push_toArray, List.append_toArray, List.nil_append, List.cons_append]
  gi_wp2_with fail
  refine ⟨trivial, (callsIn_wide.2 (cuts_any S _)).mono ?_⟩
  rintro e w6 ⟨rfl, rfl⟩
  gi_wp2_with fail
  have b0 := ((Boxed.new w 36 (.func (.func 61) #[.agg #[.int .i64 (2 ^ n - 1), .slice (some ⟨g, 0, none⟩) n cap]] #[])).alloc (.cells #[.bool false] 4)).alloc (.cells #[.int .i64 S] 40)
  have b1 := (Boxed.new (w.alloc (.cells #[.func (.func 61) #[.agg #[.int .i64 (2 ^ n - 1), .slice (some ⟨g, 0, none⟩) n cap]] #[]] 36)) 4 (.bool false)).alloc (.cells #[.int .i64 S] 40)
  have b2 := Boxed.new ((w.alloc (.cells #[.func (.func 61) #[.agg #[.int .i64 (2 ^ n - 1), .slice (some ⟨g, 0, none⟩) n cap]] #[]] 36)).alloc (.cells #[.bool false] 4)) 40 (.int .i64 S)
  have hB0 : Below w.heap.size w (((w.alloc (.cells #[.func (.func 61) #[.agg #[.int .i64 (2 ^ n - 1), .slice (some ⟨g, 0, none⟩) n cap]] #[]] 36)).alloc (.cells #[.bool false] 4)).alloc (.cells #[.int .i64 S] 40)) :=
    (((Below.refl _ w).alloc (Nat.le_refl _) _).alloc (by simp) _).alloc (by simp; omega) _
  have hsz : (((w.alloc (.cells #[.func (.func 61) #[.agg #[.int .i64 (2 ^ n - 1), .slice (some ⟨g, 0, none⟩) n cap]] #[]] 36)).alloc (.cells #[.bool false] 4)).alloc (.cells #[.int .i64 S] 40)).heap.size = w.heap.size + 3 := by simp
  simp only [World.size_alloc] at b1 b2
  obtain ⟨W0, hW0⟩ : ∃ W0, ((w.alloc (.cells #[.func (.func 61) #[.agg #[.int .i64 (2 ^ n - 1), .slice (some ⟨g, 0, none⟩) n cap]] #[]] 36)).alloc (.cells #[.bool false] 4)).alloc (.cells #[.int .i64 S] 40) = W0 := ⟨_, rfl⟩
  rw [hW0] at b0 b1 b2 hB0 hsz ⊢
  clear hW0
  obtain ⟨R, hR⟩ : ∃ R, w.heap.size = R := ⟨_, rfl⟩
  rw [hR] at b0 b1 b2 hB0 hsz hg ⊢
  have HRZ := Lib.hid hR; clear hR
  refine wpIn_rangeFunc_ownF rfl (by omega) (gf := 74) (lb := #[.pointer (some ⟨R + 1 + 1, 0, none⟩)]) rfl trivial (enters_of Try.func74 (by kernel_rfl) rfl)
    (cutsC_stops _ (R + 1 + 1) S hS hS1 W0 b2.lt b2.cell)
    (fun h k => KeptC.on h k) (keptC_b b2.lt) (Below.refl _ _) (fun _ => rfl)
    (fun pre W => (Boxed W R 36 (.func (.func 61) #[.agg #[.int .i64 (2 ^ n - 1), .slice (some ⟨g, 0, none⟩) n cap]] #[]) ∧ Boxed W (R + 1) 4 (.bool false)) ∧ (∀ z, z ∈ pre → (andI (gwI n f (z.1 : Int)) ((S - z.1 : Nat) : Int) != 0) = true) ∧ Below R w W ∧ R + 3 ≤ W.heap.size)
    (fun c pre W => (c = .ret ∧ Boxed W (R + 1) 4 (.bool false)) ∧ (∃ z : Ct S, (andI (gwI n f (z.1 : Int)) ((S - z.1 : Nat) : Int) != 0) = false) ∧ Below R w W ∧ R + 3 ≤ W.heap.size)
    (ownFrom_of (fun _ X Y h hb => ⟨⟨boxed_below h.1.1 hb (by omega), boxed_below h.1.2 hb (by omega)⟩, h.2.1, h.2.2.1.trans (hb.mono (by omega)), Nat.le_trans h.2.2.2 hb.size⟩) (fun _ X h => by have := h.2.2.2; omega))
    (fun c => ownFrom_of (fun _ X Y h hb => ⟨⟨h.1.1, boxed_below h.1.2 hb (by omega)⟩, h.2.1, h.2.2.1.trans (hb.mono (by omega)), Nat.le_trans h.2.2.2 hb.size⟩) (fun _ X h => by have := h.2.2.2; omega))
    ⟨⟨b0, b1⟩, (fun z hz => by cases hz), hB0, by omega⟩
    (fun x => { tmps := #[.func (.func 61) #[.agg #[.int .i64 (2 ^ n - 1), .slice (some ⟨g, 0, none⟩) n cap]] #[], .int .i64 S, .pointer (some ⟨R, 0, none⟩), undef, .pointer (some ⟨R + 1, 0, none⟩), .int .i64 (x.1 : Int), .int .i64 (S - x.1 : Nat),
        .int .i64 S, .func (.func 74) #[] #[.pointer (some ⟨R + 1 + 1, 0, none⟩)], .int .i64 (x.1 : Int), .int .i64 (S - x.1 : Nat), undef, undef, undef, undef, undef], defers := [] }) ?assign ?body ?done ?stop
  case assign =>
    intro l x W K hK
    gi_wp2_with fail
    exact hK
  case body =>
    rintro l pre x W ⟨⟨hA, hF⟩, hall, hB, hs⟩ _
    have c0 := hA.cell
    have cF := hF.cell
    have fF := hF.frozen
    obtain ⟨d, hd⟩ : ∃ d, ((S - x.1 : Nat) : Int) = d := ⟨_, rfl⟩
    have HTC := Lib.hid (touch_any g n cap f (x.1 : Int) d h7 W (HR.out.below hB hg) (by omega))
    have HA := Lib.hid hA; have HF := Lib.hid hF; have HB := Lib.hid hB; have HALL := Lib.hid hall; have HD := Lib.hid hd
    rw [hd]
    clear hA hF hB hall hd
    cases hv : (andI (gwI n f (x.1 : Int)) d != 0) with
    | true =>
      have HV := Lib.hid hv; 
      rw [hv] at HTC
      clear hv
      gi_wp2_with fail
      refine ⟨trivial, (CallsIn.inRound l (callsIn_wide.2 HTC.out)).mono ?_⟩
      rintro e w7 ⟨rfl, hb7⟩
      gi_wp2_with fail
      refine ⟨keepsFrom_below (KeepsFrom.refl W0.heap.size W) hb7 (Nat.le_refl _) |> (fun h => ⟨h.size, fun k o hk ho => (hb7.block k (Array.getElem?_eq_some_iff.1 hk).1).trans hk⟩), KeptC.below hb7 (by omega), ⟨boxed_below HA.out hb7 (by omega), boxed_below HF.out hb7 (by omega)⟩, ?_, HB.out.trans (hb7.mono (by omega)), Nat.le_trans hs hb7.size⟩
      intro z hz
      rw [List.mem_append, List.mem_singleton] at hz
      rcases hz with hz | rfl
      · exact HALL.out z hz
      · rw [HD.out]; exact HV.out
    | false =>
      have HV := Lib.hid hv
      rw [hv] at HTC
      clear hv
      gi_wp2_with fail
      refine ⟨trivial, (CallsIn.inRound l (callsIn_wide.2 HTC.out)).mono ?_⟩
      rintro e w7 ⟨rfl, hb7⟩
      have HF7 := boxed_below HF.out hb7 (show R + 1 < W.heap.size by omega)
      have cF7 := HF7.cell
      have fF7 := HF7.frozen
      have HF8 := Lib.hid HF7
      clear HF7
      gi_wp2_with fail
      have hko : KeepsOthers W w7 := ⟨hb7.size, fun k o hk ho => (hb7.block k (Array.getElem?_eq_some_iff.1 hk).1).trans hk⟩
      exact ⟨hko.trans (KeepsOthers.setCell _ _ _), ⟨rfl, HF8.out.set _⟩, ⟨x, by rw [HD.out]; exact HV.out⟩, (HB.out.trans (hb7.mono (by omega))).setCell (p := ⟨R + 1, 0, none⟩) (by show R ≤ R + 1; omega) _, by have := hb7.size; simp; omega⟩
  case done =>
    rintro D xs W hD hxs ⟨⟨hA, hF⟩, hall, hB, hs⟩ hK
    have cF := hF.cell
    have fF := hF.frozen
    have HF := Lib.hid hF; have HB := Lib.hid hB
    have htg : tgB n f S = true := by
      cases h : tgB n f S with
      | true => rfl
      | false =>
        obtain ⟨y, hy, hn⟩ := cut_none HT.out h
        obtain ⟨z, hz, rfl⟩ := hxs y hy
        rw [hall z hz] at hn; cases hn
    have HG := Lib.hid htg
    clear hA hF hB hall htg
    gi_wp2_with fail
    have hK' := (KeepsOthers.setCell W ⟨R + 1, 0, none⟩ (.bool true)).same D _ hK rfl
    refine ⟨by simp, .inl ⟨_, _, rfl, run_takeDeferred hK', ?_⟩⟩
    have hF9 : Boxed ((W.setCell ⟨R + 1, 0, none⟩ (.bool true)).putObj D (.deferred none)) (R + 1) 4 (.bool true) := (World.putObj_heap_other (by omega)).trans (HF.out.set _)
    have hc5 := hF9.cell
    have hb9 := (HB.out.setCell (p := ⟨R + 1, 0, none⟩) (by show R ≤ R + 1; omega) (.bool true)).trans (belowK_b (n₀ := R) (w := W0) (by omega) _ D _ (.deferred none) hD hK' rfl rfl)
    refine ⟨.bool true, ?_, by rw [HG.out], by rw [HRZ.out]; exact hb9⟩
    simp [results, Try.f41, go_sem, hc5]
  case stop =>
    rintro D c pre W hD _ ⟨⟨rfl, hF⟩, ⟨z, hz⟩, hB, hs⟩ hK
    have HF := Lib.hid hF; have HB := Lib.hid hB
    have HG := Lib.hid (show tgB n f S = false by
      cases h : tgB n f S with
      | false => rfl
      | true =>
        have := cut_touch HT.out h z.2
        rw [hz] at this; cases this)
    clear hF hB
    gi_wp2_with fail
    refine ⟨by simp, .inl ⟨_, _, rfl, run_takeDeferred hK, ?_⟩⟩
    have hF9 : Boxed (W.putObj D (.deferred none)) (R + 1) 4 (.bool false) := (World.putObj_heap_other (by omega)).trans HF.out
    have hc5 := hF9.cell
    have hb9 := HB.out.trans (belowK_b (n₀ := R) (w := W0) (by omega) _ D _ (.deferred none) hD hK rfl rfl)
    refine ⟨.bool false, ?_, by rw [HG.out], by rw [HRZ.out]; exact hb9⟩
    simp [results, Try.f41, go_sem, hc5]
end Go.Proofs.Ytacoeaoaabjkoaa
