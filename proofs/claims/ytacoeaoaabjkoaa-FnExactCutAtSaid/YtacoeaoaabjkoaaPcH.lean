import Derived.Test.YtacoeaoaabjkoaaPcG
namespace Go.Proofs.Ytacoeaoaabjkoaa
open Go.RowKit Go.Shelf Go.Maps
attribute [local go_sem] Oper.semAt_some

theorem together_any (g n cap : Nat) (f : Nat → Int) (s : Int) (hT : ThP n f s) (hs1 : 1 ≤ s) (w : World) (hr : Row w g 0 n f) (hg : g < w.heap.size) :
    Calls Try.prog 41 #[.func (.func 61) #[.agg #[.int .i64 (2 ^ n - 1), .slice (some ⟨g, 0, none⟩) n cap]] #[], .int .i64 s] w fun e w' => e = .returned (.bool (tgB n f s)) ∧ Below w.heap.size w w' := by
  obtain ⟨S, rfl⟩ := Int.eq_ofNat_of_zero_le hT.lo
  exact together_nat g n cap f S hT (by omega) w hr hg
theorem together_val (g n cap : Nat) (f : Nat → Int) (s : Int) (v : Bool) (hv : tgB n f s = v) (hT : ThP n f s) (hs1 : 1 ≤ s) (w : World) (hr : Row w g 0 n f) (hg : g < w.heap.size) :
    Calls Try.prog 41 #[.func (.func 61) #[.agg #[.int .i64 (2 ^ n - 1), .slice (some ⟨g, 0, none⟩) n cap]] #[], .int .i64 s] w fun e w' => e = .returned (.bool v) ∧ Below w.heap.size w w' := by
  subst hv; exact together_any g n cap f s hT hs1 w hr hg

/-- a set without one of its places -/
theorem less_bit {s : Int} {p i : Nat} (hi : i < 64) : hasB (bits .andNot .i64 s (2 ^ p)) i = (hasB s i && !decide (p = i)) := by
  rw [andNot_bit _ _ _ hi, hasB_pow8]
theorem th_less {n : Nat} {f : Nat → Int} {s : Int} (hT : ThP n f s) (p : Nat) : ThP n f (bits .andNot .i64 s (2 ^ p)) := by
  have h7 := hT.g.hi
  have h := lt_of_bits (bits .andNot .i64 s (2 ^ p)) n (by omega) (andNot_I64 _ _) (fun i hi hni => by
    rw [less_bit hi, Bool.eq_false_iff]
    intro hb
    rw [Bool.and_eq_true] at hb
    have := hT.lt hb.1
    omega)
  exact ⟨hT.g, h.1, h.2⟩
/-- two places or more -/
def Two (s : Int) : Prop := ∃ i j, i ≠ j ∧ hasB s i = true ∧ hasB s j = true
theorem less_pos {n : Nat} {f : Nat → Int} {s : Int} (hT : ThP n f s) (h2 : Two s) (p : Nat) : 1 ≤ bits .andNot .i64 s (2 ^ p) := by
  have h7 := hT.g.hi
  have hr := th_less hT p
  obtain ⟨i, j, hij, h1, h3⟩ := h2
  have hin := hT.lt h1
  have hjn := hT.lt h3
  have hne : bits .andNot .i64 s (2 ^ p) ≠ 0 := by
    intro e
    by_cases hp : p = i
    · have := less_bit (s := s) (p := p) (i := j) (by omega)
      rw [e, hasB_zero, h3, decide_eq_false (by omega)] at this; cases this
    · have := less_bit (s := s) (p := p) (i := i) (by omega)
      rw [e, hasB_zero, h1, decide_eq_false hp] at this; cases this
  have := hr.lo
  omega
/-- the cuts among the places that have come -/
def ctP {s : Int} (n : Nat) (f : Nat → Int) (pre : List (Pl s)) : Int := setOf (fun i => inP pre i && !tgB n f (bits .andNot .i64 s (2 ^ i))) 7
theorem ctP_nil {s : Int} (n : Nat) (f : Nat → Int) : ctP n f ([] : List (Pl s)) = 0 := by
  apply ext64 _ _ (setOf_I64 _ _) I64_zero
  intro i hi
  show hasB (setOf _ 7) i = _
  rw [setOf_bit _ _ _ hi, hasB_zero, inP_nil]
  simp
theorem ctP_yes {s : Int} {n : Nat} {f : Nat → Int} (pre : List (Pl s)) (x : Pl s) (h : tgB n f (bits .andNot .i64 s (2 ^ x.1)) = false) : ctP n f (pre ++ [x]) = bits .or .i64 (ctP n f pre) (2 ^ x.1) := by
  have hx7 := x.2.1
  apply ext64 _ _ (setOf_I64 _ _) (orI_I64 _ _)
  intro i hi
  show hasB (setOf _ 7) i = hasB (orI (setOf _ 7) _) i
  rw [or_bit _ _ _ hi, setOf_bit _ _ _ hi, setOf_bit _ _ _ hi, hasB_pow8, inP_snoc]
  by_cases e : x.1 = i
  · subst e
    rw [decide_eq_true rfl, decide_eq_true hx7, h]
    simp
  · rw [decide_eq_false e]; simp
theorem ctP_no {s : Int} {n : Nat} {f : Nat → Int} (pre : List (Pl s)) (x : Pl s) (h : tgB n f (bits .andNot .i64 s (2 ^ x.1)) = true) : ctP n f (pre ++ [x]) = ctP n f pre := by
  apply ext64 _ _ (setOf_I64 _ _) (setOf_I64 _ _)
  intro i hi
  show hasB (setOf _ 7) i = hasB (setOf _ 7) i
  rw [setOf_bit _ _ _ hi, setOf_bit _ _ _ hi, inP_snoc]
  by_cases e : x.1 = i
  · subst e
    rw [h]; simp
  · rw [decide_eq_false e]; simp
theorem ctP_all {s : Int} {n : Nat} {f : Nat → Int} {xs : List (Pl s)} (h : CameP s 7 xs) : ctP n f xs = ctI n f s 7 := by
  apply ext64 _ _ (setOf_I64 _ _) (setOf_I64 _ _)
  intro i hi
  show hasB (setOf (fun i => inP xs i && !tgB n f (bits .andNot .i64 s (2 ^ i))) 7) i = hasB (setOf (fun i => hasB s i && !tgB n f (bits .andNot .i64 s (2 ^ i))) 7) i
  rw [setOf_bit _ _ _ hi, setOf_bit _ _ _ hi]
  by_cases h7 : i < 7
  · rw [inP_all h i h7]
  · rw [decide_eq_false h7]; rfl

set_option maxRecDepth 100000 in
set_option maxHeartbeats 4000000 in
theorem cutAt_any (g n cap : Nat) (f : Nat → Int) (s : Int) (hT : ThP n f s) (h2 : Two s) (w : World) (hr : Row w g 0 n f) (hg : g < w.heap.size) :
    Calls Try.prog 57 #[.func (.func 61) #[.agg #[.int .i64 (2 ^ n - 1), .slice (some ⟨g, 0, none⟩) n cap]] #[], .int .i64 s] w fun e w' => e = .returned (.int .i64 (ctI n f s n)) ∧ Below w.heap.size w w' := by
  have HR := Lib.hid hr; have HT := Lib.hid hT; have H2 := Lib.hid h2; clear hr hT h2
  refine (callsIn_wide (n := 19)).1 ?_
  refine callsIn_of_wp_marks Try.func57 rfl trivial ?_ rfl
  simp only [Try.ntmps57, List.size_toArray, List.length_cons, List.length_nil, Nat.reduceAdd, Nat.reduceSub, Array.replicate_succ, Array.replicate_zero, List.push_toArray, List.append_toArray, List.nil_append, List.cons_append]
  gi_wp2_with fail
  refine ⟨trivial, (callsIn_wide.2 (each_any s _)).mono ?_⟩
  rintro e w6 ⟨rfl, rfl⟩
  gi_wp2_with fail
  have b0 := (((Boxed.new w 36 (.func (.func 61) #[.agg #[.int .i64 (2 ^ n - 1), .slice (some ⟨g, 0, none⟩) n cap]] #[])).alloc (.cells #[.int .i64 s] 40)).alloc (.cells #[.int .i64 0] 40)).alloc (.cells #[.int .i64 s] 40)
  have b1 := ((Boxed.new (w.alloc (.cells #[.func (.func 61) #[.agg #[.int .i64 (2 ^ n - 1), .slice (some ⟨g, 0, none⟩) n cap]] #[]] 36)) 40 (.int .i64 s)).alloc (.cells #[.int .i64 0] 40)).alloc (.cells #[.int .i64 s] 40)
  have b2 := (Boxed.new ((w.alloc (.cells #[.func (.func 61) #[.agg #[.int .i64 (2 ^ n - 1), .slice (some ⟨g, 0, none⟩) n cap]] #[]] 36)).alloc (.cells #[.int .i64 s] 40)) 40 (.int .i64 0)).alloc (.cells #[.int .i64 s] 40)
  have b3 := Boxed.new (((w.alloc (.cells #[.func (.func 61) #[.agg #[.int .i64 (2 ^ n - 1), .slice (some ⟨g, 0, none⟩) n cap]] #[]] 36)).alloc (.cells #[.int .i64 s] 40)).alloc (.cells #[.int .i64 0] 40)) 40 (.int .i64 s)
  have hB0 : Below w.heap.size w ((((w.alloc (.cells #[.func (.func 61) #[.agg #[.int .i64 (2 ^ n - 1), .slice (some ⟨g, 0, none⟩) n cap]] #[]] 36)).alloc (.cells #[.int .i64 s] 40)).alloc (.cells #[.int .i64 0] 40)).alloc (.cells #[.int .i64 s] 40)) :=
    ((((Below.refl _ w).alloc (Nat.le_refl _) _).alloc (by simp) _).alloc (by simp; omega) _).alloc (by simp; omega) _
  have hsz : ((((w.alloc (.cells #[.func (.func 61) #[.agg #[.int .i64 (2 ^ n - 1), .slice (some ⟨g, 0, none⟩) n cap]] #[]] 36)).alloc (.cells #[.int .i64 s] 40)).alloc (.cells #[.int .i64 0] 40)).alloc (.cells #[.int .i64 s] 40)).heap.size = w.heap.size + 4 := by simp
  simp only [World.size_alloc] at b1 b2 b3
  obtain ⟨W0, hW0⟩ : ∃ W0, (((w.alloc (.cells #[.func (.func 61) #[.agg #[.int .i64 (2 ^ n - 1), .slice (some ⟨g, 0, none⟩) n cap]] #[]] 36)).alloc (.cells #[.int .i64 s] 40)).alloc (.cells #[.int .i64 0] 40)).alloc (.cells #[.int .i64 s] 40) = W0 := ⟨_, rfl⟩
  rw [hW0] at b0 b1 b2 b3 hB0 hsz ⊢
  clear hW0
  obtain ⟨R, hR⟩ : ∃ R, w.heap.size = R := ⟨_, rfl⟩
  rw [hR] at b0 b1 b2 b3 hB0 hsz hg ⊢
  have HRZ := Lib.hid hR; clear hR
  refine wpIn_rangeFunc_ownF rfl (by omega) (gf := 81) (lb := #[.pointer (some ⟨R + 1 + 1 + 1, 0, none⟩)]) rfl trivial (enters_of Try.func81 (by kernel_rfl) rfl)
    (eachC_stops _ (R + 1 + 1 + 1) s W0 b3.lt b3.cell)
    (fun h k => KeptC.on h k) (keptC_b b3.lt) (Below.refl _ _) (fun _ => rfl)
    (fun pre W => (Boxed W R 36 (.func (.func 61) #[.agg #[.int .i64 (2 ^ n - 1), .slice (some ⟨g, 0, none⟩) n cap]] #[]) ∧ Boxed W (R + 1) 40 (.int .i64 s) ∧ Boxed W (R + 1 + 1) 40 (.int .i64 (ctP n f pre))) ∧ Below R w W ∧ R + 4 ≤ W.heap.size)
    (fun _ _ _ => False)
    (ownFrom_of (fun _ X Y h hb => ⟨⟨boxed_below h.1.1 hb (by omega), boxed_below h.1.2.1 hb (by omega), boxed_below h.1.2.2 hb (by omega)⟩, h.2.1.trans (hb.mono (by omega)), Nat.le_trans h.2.2 hb.size⟩) (fun _ X h => by have := h.2.2; omega))
    (fun _ _ _ _ _ hs _ _ => hs)
    ⟨⟨b0, b1, by rw [ctP_nil]; exact b2⟩, hB0, by omega⟩
    (fun x => { tmps := #[.func (.func 61) #[.agg #[.int .i64 (2 ^ n - 1), .slice (some ⟨g, 0, none⟩) n cap]] #[], .int .i64 s, .pointer (some ⟨R, 0, none⟩), .pointer (some ⟨R + 1, 0, none⟩), .int .i64 0, .pointer (some ⟨R + 1 + 1, 0, none⟩), .int .i64 (x.1 : Int),
        .int .i64 s, .func (.func 81) #[] #[.pointer (some ⟨R + 1 + 1 + 1, 0, none⟩)], .int .i64 (x.1 : Int), undef, undef, undef, undef, undef, undef, undef, undef, undef, undef, undef, undef], defers := [] }) ?assign ?body ?done ?stop
  case assign =>
    intro l x W K hK
    gi_wp2_with fail
    exact hK
  case body =>
    rintro l pre x W ⟨⟨hA, hSt, hF⟩, hB, hs⟩ _
    have hx7 := x.2.1
    have ⟨hp1, hp2⟩ := pow_bounds x.1 (by omega)
    have hwr : IntKind.i64.wrap (2 ^ x.1) = 2 ^ x.1 := wrap_in _ (by unfold I64; omega)
    have hmx : Try.prog.follows .mixedOrders = true := by kernel_rfl
    have c0 : W.drew.cell? ⟨R, 0, none⟩ = _ := hA.cell
    have c1 : W.drew.cell? ⟨R + 1, 0, none⟩ = _ := hSt.cell
    have HTC := Lib.hid (together_any g n cap f (bits .andNot .i64 s (2 ^ x.1)) (th_less HT.out x.1) (less_pos HT.out H2.out x.1) W.drew ((HR.out.below hB hg).drewN 1) (by show g < W.heap.size; omega))
    have HA := Lib.hid hA; have HSt := Lib.hid hSt; have HF := Lib.hid hF; have HB := Lib.hid hB; have HS := Lib.hid hs
    clear hA hSt hF hB hs
    cases hv : tgB n f (bits .andNot .i64 s (2 ^ x.1)) with
    | true =>
      rw [hv] at HTC
      have HC := Lib.hid (ctP_no pre x hv)
      clear hv
      gi_wp2_with fail
      gi_region_with_o (refine ⟨trivial, (CallsIn.inRound l (callsIn_wide.2 HTC.out)).mono ?_⟩; rintro e w7 ⟨rfl, hb7⟩)
      all_goals gi_wp2_with fail
      all_goals
        have hb7 := below_of_drew (by assumption)
        have hsz7 := hb7.size
        have hko : KeepsOthers W _ := ⟨hb7.size, fun k o hk ho => (hb7.block k (Array.getElem?_eq_some_iff.1 hk).1).trans hk⟩
        have := HS.out
        exact ⟨hko, KeptC.below hb7 (by omega), ⟨boxed_below HA.out hb7 (by omega), boxed_below HSt.out hb7 (by omega), by rw [HC.out]; exact boxed_below HF.out hb7 (by omega)⟩, HB.out.trans (hb7.mono (by omega)), by omega⟩
    | false =>
      rw [hv] at HTC
      have HC := Lib.hid (ctP_yes pre x hv)
      clear hv
      gi_wp2_with fail
      rename_i Q8 K8 hK8
      have HK : Hid (∀ w7, Below W.heap.size W w7 → K8 { tmps := #[.func (.func 61) #[.agg #[.int .i64 (2 ^ n - 1), .slice (some ⟨g, 0, none⟩) n cap]] #[], .int .i64 s, .pointer (some ⟨R, 0, none⟩), .pointer (some ⟨R + 1, 0, none⟩), .int .i64 0, .pointer (some ⟨R + 1 + 1, 0, none⟩), .int .i64 (x.1 : Int),
        .int .i64 s, .func (.func 81) #[] #[.pointer (some ⟨R + 1 + 1 + 1, 0, none⟩)], .int .i64 (x.1 : Int), .func (.func 61) #[.agg #[.int .i64 (2 ^ n - 1), .slice (some ⟨g, 0, none⟩) n cap]] #[], .int .i64 s, .int .i64 (x.1 : Int), .int .i64 (2 ^ x.1), .int .i64 (bits .andNot .i64 s (2 ^ x.1)), .bool false, .bool true, undef, undef, undef, undef, undef], defers := [] } w7) := Lib.hid (by
        intro w7 hb7
        refine hK8 _ _ ?_
        clear hK8 c0 c1
        have := HS.out
        have hF7 := boxed_below HF.out hb7 (show R + 1 + 1 < W.heap.size by omega)
        have cF7 : w7.drew.cell? ⟨R + 1 + 1, 0, none⟩ = _ := hF7.cell
        have fF7 : w7.drew.frozen? ⟨R + 1 + 1, 0, none⟩ = _ := hF7.frozen
        have HF7 := Lib.hid hF7; clear hF7
        have HB7 := Lib.hid hb7; clear hb7 this
        gi_wp2_with fail
        gi_region_with_o (fail)
        all_goals gi_wp2_with fail
        all_goals
          have hb7 := HB7.out
          have hsz7 := hb7.size
          have hko : KeepsOthers W w7 := ⟨hb7.size, fun k o hk ho => (hb7.block k (Array.getElem?_eq_some_iff.1 hk).1).trans hk⟩
          have := HS.out
          have ho := ((Only.refl (R + 1 + 1) w7).drewN 1).setCell 0 (.int .i64 (bits .or .i64 (ctP n f pre) (2 ^ x.1)))
          refine ⟨(hko.trans (KeepsOthers.drew _)).trans (KeepsOthers.setCell _ _ _), (KeptC.below hb7 (by omega)).on (KeptC.only ho (by omega) (by omega)), ⟨boxed_only (boxed_below HA.out hb7 (by omega)) ho (by omega), boxed_only (boxed_below HSt.out hb7 (by omega)) ho (by omega), by rw [HC.out]; exact Boxed.set _ (show Boxed w7.drew (R + 1 + 1) _ _ from HF7.out)⟩, (HB.out.trans (hb7.mono (by omega))).trans (ho.below (by omega) (by omega)), Nat.le_trans (by omega) ho.size⟩)
      clear hK8
      gi_region_with_o (refine ⟨trivial, (CallsIn.inRound l (callsIn_wide.2 HTC.out)).mono ?_⟩; rintro e w7 ⟨rfl, hb7⟩)
      all_goals exact HK.out _ (below_of_drew (by assumption))
  case done =>
    rintro D xs W hD hxs ⟨⟨hA, hSt, hF⟩, hB, hs⟩ hK
    have hF2 : Boxed W (R + 1 + 1) 40 (.int .i64 (ctI n f s n)) := by rw [← ctI_top HT.out, ← ctP_all hxs]; exact hF
    have cF := hF2.cell
    have HB := Lib.hid hB
    clear hA hSt hF hF2 hB
    gi_wp2_with fail
    refine ⟨by simp, .inl ⟨_, _, rfl, run_takeDeferred hK, ?_⟩⟩
    have hb9 := HB.out.trans (belowK_b (n₀ := R) (w := W0) (by omega) _ D _ (.deferred none) hD hK rfl rfl)
    exact ⟨_, results_tmp rfl _ _ _, rfl, by rw [HRZ.out]; exact hb9⟩
  case stop =>
    rintro D c pre W _ _ h _
    exact h.elim
end Go.Proofs.Ytacoeaoaabjkoaa
