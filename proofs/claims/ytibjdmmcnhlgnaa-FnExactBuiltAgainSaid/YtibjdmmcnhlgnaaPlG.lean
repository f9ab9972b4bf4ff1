import Derived.Test.YtibjdmmcnhlgnaaPlF
namespace Go.Proofs.Ytibjdmmcnhlgnaa
set_option linter.unusedVariables false
set_option linter.unusedSimpArgs false
open Go.RowKit Go.Maps
attribute [local go_sem] Oper.semAt_some

theorem TakenOut_no (a b : Option Addr) (n cap m c2 : Nat) (f P Q : Nat → Int) (hc : n ≤ cap) (hm : m ≤ 9223372036854775807) (hs : syB n f m = false) (w : World) (hi : Ints w a n f) :
    Calls Try.prog 35 #[.slice a n cap, .slice b m c2] w (Gives 3 (tyL n f P Q m) w) := by
  have HI := Lib.hid hi; have HS := Lib.hid hs; have HL := Lib.hid (show tyL n f P Q m = [] by unfold tyL; rw [hs]; rfl); clear hi hs
  rw [HL.out]
  go_enter Try.func35, Try.ntmps35
  go_wp2_with fail
  refine (storyOk_val _ _ _ _ _ _ _ false HS.out hc hm _ HI.out).mono ?_
  rintro e w' ⟨rfl, rfl⟩
  go_wp2_with fail
  go_ret
  exact ⟨_, rfl, OwnX.nil _ _ _, Below.refl _ _⟩

/-- what the loop of what was taken out knows of its own memory -/
structure TkI (n : Nat) (f P Q : Nat → Int) (R0 V : Nat) (w : World) (xs : List Shp) (T : Nat → Prop) (W : World) : Prop where
  box : ∃ v, Boxed W V 23 v ∧ OwnX W R0 3 v (xs.map (fun x => outI n f P Q x.k)) ∧ ∀ g, v.ownBlock = some g → ¬ T g
  nV : ¬ T V
  bel : Below R0 w W
  tl : ∀ k, T k → R0 ≤ k ∧ k < W.heap.size
theorem TkI.abide {n R0 V Bs : Nat} {f P Q : Nat → Int} {w : World} (hB : R0 ≤ Bs) (hV : R0 ≤ V) : AbideT Bs (TkI n f P Q R0 V w) := by
  rintro xs T T' W W' h hm hT'
  obtain ⟨v, h1, h2, h3⟩ := h.box
  have hs := h.bel.size
  have hw : w.heap.size ≤ W'.heap.size := Nat.le_trans hs hm.size
  have hVl := h1.lt
  have hT2 : ∀ k, k < W.heap.size → ¬ T k → ¬ T' k := fun k hk hn h => by rcases hT' k h with h | h; exact hn h; omega
  have eV : W'.heap[V]? = W.heap[V]? := hm.block V hVl h.nV (fun _ o ho => by rw [show W.heap[V]? = _ from h1] at ho; cases ho; rfl)
  refine ⟨⟨v, eV.trans h1, ownsRow_same h2 (fun g hg => hm.block g (World.ownsRow.lt h2 g hg).2 (h3 g hg) (fun _ o ho => ownsRow_cells h2 hg ho)), fun g hg => hT2 g (World.ownsRow.lt h2 g hg).2 (h3 g hg)⟩, hT2 V hVl h.nV, ?_, fun k hk => ?_⟩
  · have hR := h.bel
    refine ⟨hm.os.trans hR.os, hm.tape.trans hR.tape, hm.output.trans hR.output, hw, fun k hk => ?_⟩
    rw [hm.block k (by omega) (fun h5 => by have := h.tl k h5; omega) (fun h5 => by omega)]
    exact hR.block k hk
  · have := hm.size
    rcases hT' k hk with h5 | h5
    · have := h.tl k h5; omega
    · omega
theorem TkI.more {n R0 V : Nat} {f P Q : Nat → Int} {w W w1 : World} {xs : List Shp} {T : Nat → Prop} {v v' : Value} {tmp : Obj} (x : Shp) (h : TkI n f P Q R0 V w xs T W)
    (hv : Boxed W V 23 v) (hrow : OwnX W R0 3 v (xs.map (fun x => outI n f P Q x.k))) (hap : ∀ g, v.ownBlock = some g → ¬ T g)
    (hown' : OwnX w1 R0 3 v' (xs.map (fun x => outI n f P Q x.k) ++ [outI n f P Q x.k])) (hgrow : (W.alloc tmp).grownBy w1 v.ownBlock) (hat : v'.ownBlock = v.ownBlock ∨ v'.ownBlock = some (W.heap.size + 1))
    (hR : R0 ≤ W.heap.size) (hVR : R0 ≤ V) :
    Boxed w1 V 23 v ∧ KeepsOthers W (w1.setCell ⟨V, 0, none⟩ v') ∧ (∀ k, T k ∨ k < R0 → (w1.setCell ⟨V, 0, none⟩ v').heap[k]? = W.heap[k]?) ∧ TkI n f P Q R0 V w (xs ++ [x]) T (w1.setCell ⟨V, 0, none⟩ v') := by
  obtain ⟨hv1, hv2, hr2, hk2, hb2⟩ := hv.appended (by decide) hrow hR hVR hown' hgrow
  have hs : (w1.setCell ⟨V, 0, none⟩ v').heap.size = w1.heap.size := by simp [World.setCell]
  have hs1 : W.heap.size + 1 ≤ w1.heap.size := by have := hgrow.size; rw [alloc_size] at this; exact this
  have hsame : ∀ k, k < W.heap.size → k ≠ V → some k ≠ v.ownBlock → (w1.setCell ⟨V, 0, none⟩ v').heap[k]? = W.heap[k]? := fun k hk h1 h2 => (Below.heap_setCell _ _ _ k h1).trans (grown_at hgrow hk h2)
  refine ⟨hv1, hk2, fun k hk => ?_, ⟨v', hv2, ?_, fun g hg => ?_⟩, h.nV, h.bel.trans hb2, fun k hk => ?_⟩
  · rcases hk with hk | hk
    · exact hsame k (h.tl k hk).2 (fun e => h.nV (e ▸ hk)) (fun e => hap k e.symm hk)
    · exact hb2.block k hk
  · rw [List.map_append]
    exact hr2
  · rcases hat with e | e
    · rw [e] at hg; exact hap g hg
    · rw [e] at hg
      have hg : W.heap.size + 1 = g := by simpa using hg
      exact fun ht => by have := h.tl g ht; omega
  · have := h.tl k hk
    rw [hs]; omega

set_option maxRecDepth 100000 in
set_option maxHeartbeats 4000000 in
theorem TakenOut_in (g0 o0 n c m c2 : Nat) (b : Option Addr) (f P Q : Nat → Int) (hc : n ≤ c) (hs : syB n f m = true) (w : World) (hi : Ints w (some ⟨g0, o0, none⟩) n f) (hr : Row w g0 o0 n f) (hg0 : g0 < w.heap.size) (hp : Prs w b m P Q) :
    Calls Try.prog 35 #[.slice (some ⟨g0, o0, none⟩) n c, .slice b m c2] w (Gives 3 (tyL n f P Q m) w) := by
  have h2 := Bool.and_eq_true_iff.1 hs
  have hm := of_decide_eq_true h2.2
  have HI := Lib.hid hi; have HS := Lib.hid hs; have HR := Lib.hid hr; have HSH := Lib.hid h2.1; have HN := Lib.hid (shipB_iff.1 h2.1); have HP := Lib.hid hp
  have HL := Lib.hid (show tyL n f P Q m = tkL n f P Q m by unfold tyL; rw [hs]; rfl)
  have HRB : Hid (∀ q o, b = some ⟨q, o, none⟩ → 1 ≤ m → q < w.heap.size) := Lib.hid (fun q o hb h1 => by
    obtain ⟨b', o', e, hl, _⟩ := hp.row h1
    rw [hb] at e; cases e; exact hl)
  rw [HL.out]
  clear hi hs hr h2 hp
  refine (callsIn_wide (n := 3)).1 ?_
  refine callsIn_of_wp_marks Try.func35 rfl trivial ?_ rfl
  simp only [Try.ntmps35, List.size_toArray, List.length_cons, List.length_nil, Nat.reduceAdd, Nat.reduceSub, Array.replicate_succ, Array.replicate_zero, List.push_toArray, List.append_toArray, List.nil_append, List.cons_append]
  gi_wp2_with fail
  refine ⟨trivial, (callsIn_wide.2 (storyOk_val _ _ _ _ _ _ _ true HS.out hc (by omega) _ HI.out)).mono ?_⟩
  rintro e w' ⟨rfl, rfl⟩
  gi_wp2_with fail
  refine ⟨trivial, (callsIn_wide.2 (changesDone_any _ _ _ _ _ _ _)).mono ?_⟩
  rintro e w' ⟨rfl, rfl⟩
  gi_wp2_with fail
  have q2 := alloc_below w (.cells #[.slice none 0 0] 23)
  have q3 := alloc_below (w.alloc (.cells #[.slice none 0 0] 23)) (.cells #[.slice (some ⟨g0, o0, none⟩) n c] 23)
  have q4 := alloc_below ((w.alloc (.cells #[.slice none 0 0] 23)).alloc (.cells #[.slice (some ⟨g0, o0, none⟩) n c] 23)) (.cells #[.slice b m c2] 42)
  have b2 := Boxed.new w 23 (.slice none 0 0)
  have b3 := Boxed.new (w.alloc (.cells #[.slice none 0 0] 23)) 23 (.slice (some ⟨g0, o0, none⟩) n c)
  have b4 := Boxed.new ((w.alloc (.cells #[.slice none 0 0] 23)).alloc (.cells #[.slice (some ⟨g0, o0, none⟩) n c] 23)) 42 (.slice b m c2)
  simp only [alloc_size] at q2 q3 q4 b2 b3 b4
  replace b2 := (b2.alloc (.cells #[.slice (some ⟨g0, o0, none⟩) n c] 23)).alloc (.cells #[.slice b m c2] 42)
  replace b3 := b3.alloc (.cells #[.slice b m c2] 42)
  have hb5 : Below w.heap.size w (((w.alloc (.cells #[.slice none 0 0] 23)).alloc (.cells #[.slice (some ⟨g0, o0, none⟩) n c] 23)).alloc (.cells #[.slice b m c2] 42)) :=
    ((q2.trans (q3.mono (by omega))).trans (q4.mono (by omega)))
  have hz5 : (((w.alloc (.cells #[.slice none 0 0] 23)).alloc (.cells #[.slice (some ⟨g0, o0, none⟩) n c] 23)).alloc (.cells #[.slice b m c2] 42)).heap.size = w.heap.size + 3 := by simp only [alloc_size]
  obtain ⟨w5, hw5⟩ : ∃ w5, (((w.alloc (.cells #[.slice none 0 0] 23)).alloc (.cells #[.slice (some ⟨g0, o0, none⟩) n c] 23)).alloc (.cells #[.slice b m c2] 42)) = w5 := ⟨_, rfl⟩
  rw [hw5] at b2 b3 b4 hb5 hz5 ⊢
  clear hw5 q2 q3 q4
  replace HP := Lib.hid (HP.out.next hb5)
  replace HR := Lib.hid (HR.out.below hb5 hg0)
  obtain ⟨R0, hR0⟩ : ∃ R0, w.heap.size = R0 := ⟨_, rfl⟩
  have HRZ := Lib.hid hR0
  rw [hR0] at b2 b3 b4 hz5 hg0 hb5 HRB ⊢
  clear hR0
  have HB5 := Lib.hid hb5
  have HS5 := Lib.hid (show g0 < R0 ∧ w5.heap.size = R0 + 3 from ⟨hg0, hz5⟩)
  obtain ⟨i0, hii, hz0, hz1, hz2⟩ := info_parts Try.infoInt
  refine wpIn_rangeFunc_st (R := fun k => k < R0) (Hx := ShpAt n f P Q w5.heap.size) (S := ShpAll n f P Q m w5.heap.size) (N := m) rfl (by omega) (gf := 70) (lb := #[.pointer (some ⟨R0 + 1, 0, none⟩), .pointer (some ⟨R0 + 1 + 1, 0, none⟩)]) rfl trivial (enters_of Try.func70 (by kernel_rfl) rfl)
    (changesC_stops _ (R0 + 1) (R0 + 1 + 1) g0 o0 n c m c2 b f P Q HSH.out (fun k => k < R0) w5 b3 b4 hc HR.out (by omega) hg0 HP.out (fun q o hb h1 => HRB.out q o hb h1) (fun i hi => by omega))
    (fun k hk => by omega) (fun x T => ShpAt.stays x T) (fun xs T => ShpAll.stays xs T) (Below.refl _ _) (fun _ => rfl)
    (TkI n f P Q R0 R0 w) (TkI.abide (by omega) (Nat.le_refl _))
    ⟨⟨_, b2, OwnX.nil _ _ _, fun g hg => by simp [Value.ownBlock] at hg⟩, (fun h => h), HB5.out, fun k h => h.elim⟩
    (fun x => { tmps := #[.slice (some ⟨g0, o0, none⟩) n c, .slice b m c2, undef, undef, .slice none 0 0, .pointer (some ⟨R0, 0, none⟩), undef, .int .i64 (outI n f P Q x.k), .slice (some ⟨g0, o0, none⟩) n c, .slice b m c2, .bool true, .bool false, .slice (some ⟨g0, o0, none⟩) n c, .slice b m c2,
      .func (.func 70) #[] #[.pointer (some ⟨R0 + 1, 0, none⟩), .pointer (some ⟨R0 + 1 + 1, 0, none⟩)], x.v n, .int .i64 (outI n f P Q x.k), undef, undef, undef, undef, undef], defers := [] })
    ?assign ?body ?done
  case assign =>
    intro l x W K hK
    dsimp only [encS]
    gi_wp2_with fail
    exact hK
  case body =>
    rintro l pre x T W hI hlen hx hTl
    obtain ⟨v, hv, hrow, hap⟩ := hI.box
    have hcell := hv.cell
    have hfz := hv.frozen
    have HI2 := Lib.hid hI; have HV := Lib.hid hv; have HX := Lib.hid hx; have HAP := Lib.hid hap; have HTL := Lib.hid hTl
    have HSZ := Lib.hid hI.bel.size
    have HRX := Lib.hid hrow
    have HRW : Hid (W.ownsRow R0 3 1 v (pre.map (fun x => outI n f P Q x.k)).length ((pre.map (fun x => outI n f P Q x.k)).map (Value.int .i64))) := Lib.hid hrow
    clear hI hx hap hTl hv
    obtain ⟨z, hz⟩ : ∃ z, outI n f P Q x.k = z := ⟨_, rfl⟩
    rw [hz]
    have HZ := Lib.hid hz; clear hz
    have k1 := Lib.hid (fun (j : Nat) (u : Value) (h : [Value.int .i64 z][j]? = some u) => cell_one_new W (.int .i64 z) 3 j u h)
    have k2 : Hid (∀ u ∈ [Value.int .i64 z], u.oneCell' = true) := Lib.hid (by intro u hu; simp at hu; subst hu; rfl)
    have k3 : Hid ((pre.map (fun x => outI n f P Q x.k)).length + 1 ≤ maxLen) := Lib.hid (by rw [List.length_map]; unfold maxLen; omega)
    have k4 : Hid (((pre.map (fun x => outI n f P Q x.k)).length + 1) * 8 ≤ 140737488355328) := Lib.hid (by rw [List.length_map]; omega)
    have k5 : Hid (R0 ≤ (W.alloc (.cells #[.int .i64 z] 3)).heap.size) := Lib.hid (by rw [alloc_size]; have := HSZ.out; have := HRZ.out; omega)
    clear hrow hlen
    gi_wp2_with (gi_at_builtin; refine wpListIn_append_own_at _ rfl (.tmp 17) (.tmp 19) 23 rfl R0 3 i0 (.int .i64 0) 1 8 Try.underlying23 hii hz0 hz1 hz2 rfl (by decide) _ _ _ rfl (HRW.out.alloc _) ⟨W.heap.size, 0, none⟩ 1 1 [.int .i64 z] rfl rfl k1.out k2.out k3.out k4.out k5.out ?_)
    intro v' w6 hown' hgrow _ hat
    have ho : OwnX w6 R0 3 v' (pre.map (fun x => outI n f P Q x.k) ++ [z]) := by
      unfold OwnX
      rw [List.length_append, List.length_map, List.map_append, List.map_map]
      exact hown'
    obtain ⟨g', cap', rfl⟩ := ownsRow_succ hown'
    rw [← HZ.out] at ho
    obtain ⟨hv1, hk2, hT2, hI2⟩ := HI2.out.more x HV.out HRX.out HAP.out ho hgrow hat (by have := HSZ.out; have := HRZ.out; omega) (Nat.le_refl _)
    have hc1 := hv1.cell
    have hf1 := hv1.frozen
    have HK2 := Lib.hid hk2; have HT2 := Lib.hid hT2; have HI3 := Lib.hid hI2
    clear hv1 hk2 hT2 hI2 hown' hgrow hat ho
    gi_wp2_with fail
    exact ⟨HK2.out.from _, HT2.out, HI3.out⟩
  case done =>
    rintro D xs T W hD hall hI hTl hnT hK
    obtain ⟨v, hv, hrow, _⟩ := hI.box
    have e : xs.map (fun x => outI n f P Q x.k) = tkL n f P Q m := by
      unfold tkL
      rw [← hall.1, List.map_map]
      rfl
    rw [e] at hrow
    have hcell := hv.cell
    have HB := Lib.hid hI.bel; have HO := Lib.hid hrow
    clear hv hrow hI hall hTl e
    gi_wp2_with fail
    refine ⟨by simp, .inl ⟨_, _, rfl, run_takeDeferred hK, ?_⟩⟩
    refine ⟨_, results_tmp rfl _ _ _, _, rfl, ?_, ?_⟩
    · rw [HRZ.out]; exact ownsRow_putObj HO.out _ hK rfl
    · rw [HRZ.out]; exact HB.out.trans (belowK_b (n₀ := R0) (w := w5) (by omega) W D _ (.deferred none) hD hK rfl rfl)

theorem TakenOut_any (a b : Option Addr) (n c m c2 : Nat) (f P Q : Nat → Int) (hc : n ≤ c) (w : World) (hi : Ints w a n f) (hp : Prs w b m P Q) :
    Calls Try.prog 35 #[.slice a n c, .slice b m c2] w (Gives 3 (tyL n f P Q m) w) := by
  cases hs : syB n f m with
  | false => exact TakenOut_no a b n c m c2 f P Q hc hp.1.1 hs w hi
  | true =>
    obtain ⟨g, o, rfl, hlt, hr⟩ := hi.row (shipB_iff.1 (Bool.and_eq_true_iff.1 hs).1).1
    exact TakenOut_in g o n c m c2 b f P Q hc hs w hi hr hlt hp
end Go.Proofs.Ytibjdmmcnhlgnaa
